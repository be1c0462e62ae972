/- Contract of helixref05.Generator. -/
import Derived.Test.YtkldapdebjlfmaaRtA
import Derived.Test.YtkldapdebjlfmaaRsB
namespace Go.Proofs.Ytkldapdebjlfmaa
open Go.RowKit Go.Shelf
attribute [local go_sem] Oper.semAt_some

set_option maxRecDepth 100000 in
set_option maxHeartbeats 2000000 in
theorem RGen_no (p : Int) (h : p < 0 ∨ 255 < p) (w : World) :
    Calls Try.prog 10 #[.int .i64 p] w fun e w' => e = .returned (.tuple #[.slice none 0 0, .int .i64 2]) ∧ Below w.heap.size w w' := by
  by_cases h0 : p < 0
  · have d0 : decide (p < 0) = true := decide_eq_true h0
    clear h
    go_enter Try.func10, Try.ntmps10
    go_wp2
    go_ret2
    exact ⟨rfl, Below.refl _ _⟩
  · have d0 : decide (p < 0) = false := decide_eq_false h0
    have h1 : 255 < p := by omega
    have d1 : decide (255 < p) = true := decide_eq_true h1
    clear h
    go_enter Try.func10, Try.ntmps10
    go_wp2
    go_ret2
    exact ⟨rfl, Below.refl _ _⟩

set_option maxRecDepth 100000 in
set_option maxHeartbeats 4000000 in
theorem RGen_yes (p : Nat) (hp : p ≤ 255) (w : World) :
    Calls Try.prog 10 #[.int .i64 p] w fun e w' => ∃ v, e = .returned (.tuple #[v, .int .i64 0]) ∧ Sl eB w'.heap.size w' v (RT (pows2 p)) ∧ Below w.heap.size w w' := by
  have d0 : decide ((p : Int) < 0) = false := decide_eq_false (by omega)
  have d1 : decide (255 < (p : Int)) = false := decide_eq_false (by omega)
  have d2 : decide (255 < p) = false := decide_eq_false (by omega)
  have hA := below_alloc w (.cells #[.int .u8 1] 5)
  have hq : Sl eB (w.alloc (.cells #[.int .u8 1] 5)).heap.size (w.alloc (.cells #[.int .u8 1] 5)) (.slice (some ⟨w.heap.size, 0, none⟩) 1 1) (RT (pows2 0)) := Sl.new eB w [1] #[eB 1] 5 (0, 0) 1 1 rfl (Nat.le_refl _) rfl
  go_enter Try.func10, Try.ntmps10
  go_wp2_with fail
  generalize w.alloc (.cells #[.int .u8 1] 5) = w0 at *
  go_loopw [4, 5] (fun v i wr => ∃ k : Nat, k ≤ p ∧ i = .int .i64 k ∧ Sl eB wr.heap.size wr v (RT (pows2 k)) ∧ Below w.heap.size w wr) (fun _ i _ => p - (intOf i).toNat)
  case atStart => exact ⟨0, Nat.zero_le _, rfl, hq, hA⟩
  case round =>
    clear hq hA d0 d1 d2
    obtain ⟨k, hk, rfl, hv, hB⟩ := hrel
    by_cases hlt : k < p
    · have dk : decide ((k : Int) < (p : Int)) = true := decide_eq_true (by omega)
      have hl := (RT_monic (pows2 k)).1
      rw [pows2_length] at hl
      have Hs := Lib.hid (show RT (pows2 (k + 1)) = tr (PM (RT (pows2 k)) (C [g2 k, 1])) ((RT (pows2 k)).length + 2) by rw [pows2_succ, RT_snoc])
      have hE := RExp k (by omega) wr
      generalize g2 k = r at *
      have hA2 := below_alloc wr (.cells #[eB r, .int .u8 1] 5)
      have hq2 := Sl.new eB wr [r, 1] #[eB r, eB 1] 5 (0, 0) 2 2 rfl (Nat.le_refl _) rfl
      have hm := RMul_any _ _ (RT (pows2 k)) [r, 1] (by omega) (by simp) _ (hv.next hA2) hq2
      generalize RT (pows2 k) = P at *
      clear hl
      go_wp2_with fail
      go_at_call 27
      refine hE.mono ?_
      rintro e w' ⟨rfl, rfl⟩
      go_wp2_with fail
      go_at_call 26
      refine hm.mono ?_
      rintro e w1 ⟨v1, rfl, hv1, hB1⟩
      clear hm
      go_wp2
      go_roundw
      case rel => exact ⟨k + 1, by omega, by go_num, by rw [Hs.out]; exact hv1.sl, below_trans hB (below_trans hA2 hB1)⟩
      case measure => simp [intOf]; omega
    · obtain rfl : k = p := by omega
      have dk : decide ((k : Int) < (k : Int)) = false := decide_eq_false (by omega)
      go_wp2
      go_ret2
      exact ⟨_, rfl, hv, hB⟩
end Go.Proofs.Ytkldapdebjlfmaa
