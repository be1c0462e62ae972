/- Contract of poly.Scale. -/
import Derived.Test.YtgidhkfmelpjfaaPoF
namespace Go.Proofs.Ytgidhkfmelpjfaa
open Go.RowKit Go.Shelf
attribute [local go_sem] Oper.semAt_some run_store_func

set_option maxRecDepth 100000 in
set_option maxHeartbeats 1000000 in
theorem Scale_any (pv : Value) (p : List UInt8) (c : UInt8) (hreach : p.length ≤ 10000) (w : World) (hS : Sl eB w.heap.size w pv p) :
    Calls Try.prog 19 #[pv, eB c] w fun e w' => ∃ v, e = .returned v ∧ Own8 w.heap.size w' v (tr (fun n => ma c (C p n)) (p.length + 1)) ∧ Below w.heap.size w w' := by
  obtain ⟨A, cap, rfl⟩ := hS.len
  have hA := below_alloc w (.cells #[eB c] 5)
  have hq := Sl.new eB w [c] #[eB c] 5 (0, 0) 1 1 rfl (Nat.le_refl _) rfl
  have hm := Mul_row _ _ p [c] (by omega) (by simp) _ (hS.next hA) hq
  rw [C_one, PM_one] at hm
  go_enter Try.func19, Try.ntmps19
  go_wp2_with fail
  go_at_call 17
  refine hm.mono ?_
  rintro e w1 ⟨v, rfl, hv, hB⟩
  go_wp2
  go_ret
  exact ⟨v, rfl, hv.mono (by simp), below_trans hA hB⟩
end Go.Proofs.Ytgidhkfmelpjfaa
