/- Contract of poly.Shift by one. -/
import Derived.Test.YtgidhkfmelpjfaaPoX0
namespace Go.Proofs.Ytgidhkfmelpjfaa
open Go.RowKit Go.Shelf
attribute [local go_sem] Oper.semAt_some

theorem C_shift (p : List UInt8) : C (0 :: p) = sh (C p) := by
  funext n
  cases n with
  | zero => rfl
  | succ n => rw [C_succ]; rfl
set_option maxRecDepth 100000 in
set_option maxHeartbeats 1000000 in
theorem Shift_one (pv : Value) (p : List UInt8) (hp : p.length ≤ 10000) (w : World) (hP : Sl eB w.heap.size w pv p) :
    Calls Try.prog 21 #[pv, .int .i64 1] w fun e w' => ∃ v, e = .returned v ∧ Own8 w.heap.size w' v (tr (sh (C p)) (p.length + 1)) ∧ Below w.heap.size w w' := by
  obtain ⟨i0, hi, hz0, hz1, hz2⟩ := info_parts info_u8
  obtain ⟨A, c, rfl⟩ := hP.len
  have hmk : ∀ w, (Instr.makeSlice 22 (.int .i64 1) (.int .i64 (1 + (p.length : Int)))).run Try.prog w = .ok (.slice (some ⟨w.heap.size, 0, none⟩) 1 (1 + p.length)) (w.alloc (.cells (cellsF (fun _ => 0) (1 + p.length)) 5)) := by
    intro w
    have h1 := run_make (P := Try.prog) w 22 5 i0 (.int .u8 0) Try.underlying22 hi hz0 .i64 .i64 1 (1 + (p.length : Int)) (by omega) (by omega) (by rw [hz2]; omega) (by omega)
    have h2 : madeCells (Value.int .u8 0).cells ((1 + (p.length : Int)).toNat * i0.size) = cellsF (fun _ => 0) (1 + p.length) := by
      rw [hz1]
      apply Array.ext
      · simp [madeCells, cellsF, Value.cells]; omega
      · intro j _ _
        simp [madeCells, cellsF, Value.cells, Nat.mod_one]
    rw [h2, show (1 + (p.length : Int)).toNat = 1 + p.length by omega] at h1
    exact h1
  have hw1 : IntKind.i64.wrap (1 + (p.length : Int)) = 1 + (p.length : Int) := IntWalk.i64_in _ (by omega)
  have hB1 := below_alloc w (.cells (cellsF (fun _ => 0) (1 + p.length)) 5)
  have hrow : (w.alloc (.cells (cellsF (fun _ => 0) (1 + p.length)) 5)).ownsRow w.heap.size 5 1 (.slice (some ⟨w.heap.size, 0, none⟩) 1 (1 + p.length)) 1 ([0].map eB) :=
    ⟨by simp, .inr ⟨w.heap.size, 1 + p.length, cellsF (fun _ => 0) (1 + p.length), rfl, Nat.le_refl _, World.alloc_heap_new w _, by omega, by unfold maxLen; omega, by rw [cellsF_size]; omega, by
      rw [Nat.add_comm 1 p.length]; simp [cellsF, List.range_succ_eq_map]⟩⟩
  have hT := fun v w hS => Trim_any v (0 :: p) (by simp; omega) w hS
  rw [C_shift, List.length_cons] at hT
  have hP1 := hP.below hB1
  go_enter Try.func21, Try.ntmps21
  go_wp2_with
    (at_builtin
     refine wpList_append_sl _ rfl (.tmp 13) (.tmp 14) _ rfl w.heap.size 5 i0 (.int .u8 0) 1 Try.underlying22 hi hz0 hz1 hz2 rfl _ 1 _ hrow rfl w.heap.size (.slice A p.length c) p hP1 rfl (fun _ => rfl) (by unfold maxLen; omega) (by omega) (by simp) ?_
     intro v1 w1 hown1 hg1 hat1
     have hB2 : Below w.heap.size w w1 := hB1.trans (below_grown hrow hg1 (by simp) (Nat.le_refl _)))
  have hown2 : Own8 w.heap.size w1 v1 (0 :: p) := by
    unfold Own8
    rw [List.length_cons, Nat.add_comm p.length 1]
    exact hown1
  go_wp2_with fail
  go_at_call 13
  refine (hT v1 w1 hown2.sl).mono ?_
  rintro e w2 ⟨v2, rfl, hv2, hB3⟩
  go_wp2
  go_ret
  exact ⟨v2, rfl, hv2.mono hB2.size, below_trans hB2 hB3⟩
end Go.Proofs.Ytgidhkfmelpjfaa
