/- helixlaw05's same and wakes. -/
import Derived.Test.YtkldapdebjlfmaaRsL
import Derived.Test.YtkldapdebjlfmaaK
namespace Go.Proofs.Ytkldapdebjlfmaa
open Go.RowKit Go.Shelf
attribute [local go_sem] Oper.semAt_some

theorem beq_dec (a b : List UInt8) : (a == b) = decide (a = b) := by by_cases h : a = b <;> simp [h]
set_option maxRecDepth 100000 in
set_option maxHeartbeats 400000 in
theorem same_any (sa sb : Value) (a b : List UInt8) (B : Nat) (w : World) (ha : Sl eB B w sa a) (hb : Sl eB B w sb b) :
    Calls Try.prog 11 #[sa, sb] w fun e w' => e = .returned (.bool (decide (a = b))) ∧ w = w' := by
  have ra := run_str (P := Try.prog) ha 22 9 5 Try.underlying22 Try.underlying5 Try.underlying9
  have rb := run_str (P := Try.prog) hb 22 9 5 Try.underlying22 Try.underlying5 Try.underlying9
  obtain ⟨Aa, ca, rfl⟩ := ha.len
  obtain ⟨Ab, cb, rfl⟩ := hb.len
  clear ha hb
  go_enter Try.func11, Try.ntmps11
  go_wp2
  go_ret
  exact ⟨by rw [← beq_dec]; rfl, rfl⟩
theorem same_eq (sa sb : Value) (a : List UInt8) (B : Nat) (w : World) (ha : Sl eB B w sa a) (hb : Sl eB B w sb a) :
    Calls Try.prog 11 #[sa, sb] w fun e w' => e = .returned (.bool true) ∧ w = w' := by
  have h := same_any sa sb a a B w ha hb
  rwa [decide_eq_true rfl] at h

theorem wk1 : RT (pows2 2) = [2, 3, 1] := by decide +kernel
theorem wk2 : restL 1 [1] = [1] := by decide +kernel
theorem wk3 : (synL ([1, 1] : List UInt8).reverse 1).all (· = 0) = true := by decide +kernel
theorem wk4 : (synL ([1, 2] : List UInt8).reverse 1).all (· = 0) = false := by decide +kernel
theorem wk5 : (synL ([] : List UInt8).reverse 0).all (· = 0) = true := by decide +kernel
set_option maxRecDepth 100000 in
set_option maxHeartbeats 4000000 in
theorem wakes_any (w : World) : Calls Try.prog 8 #[] w fun e w' => e = .returned (.bool true) ∧ Below w.heap.size w w' := by
  have hg := fun w => Generator_yes 2 (by omega) w
  rw [wk1] at hg
  have he := fun v w h => Encode_yes v [1] 1 (by simp) w h
  rw [wk2] at he
  have hn := fun A c w => Encode_no A 250 c (by omega) 6 (.inr (by omega)) w
  have hr1 := fun v w h => Right_yes v [1, 1] 1 (by simp) (by simp) w h
  rw [wk3] at hr1
  have hr2 := fun v w h => Right_yes v [1, 2] 1 (by simp) (by simp) w h
  rw [wk4] at hr2
  have hr3 := fun w h => Right_yes (.slice none 0 0) [] 0 (by simp) (by simp) w h
  rw [wk5] at hr3
  have hmk := fun w => make_run 250 (by omega) 250 rfl w
  go_enter Try.func8, Try.ntmps8
  go_wp2_with fail
  go_at_call 9
  refine (hg w).mono ?_
  rintro e w1 ⟨v1, rfl, hv1, hB1⟩
  have hA2 := below_alloc w1 (.cells #[.int .u8 1] 5)
  have hq2 := Sl.new eB w1 [1] #[eB 1] 5 (0, 0) 1 1 rfl (Nat.le_refl _) rfl
  have hv2 := hv1.next hA2
  have hT2 := below_trans hB1 hA2
  go_wp2_with fail
  go_at_call 12
  refine (he _ _ hq2).mono ?_
  rintro e w3 ⟨v3, rfl, hv3, hB3⟩
  have hv23 := hv2.next hB3
  have hT3 := below_trans hT2 hB3
  clear hv2 hT2 hB3 hq2 hA2 hv1 hB1
  have hA4 := below_alloc w3 (.cells (cellsF (fun _ => 0) 250) 5)
  have g4 := hv23.next hA4
  have r4 := hv3.next hA4
  have hT4 := below_trans hT3 hA4
  go_wp2_with fail
  go_at_call 12
  refine (hn _ _ _).mono ?_
  rintro e w5 ⟨rfl, hB5⟩
  have g5 := g4.next hB5
  have r5 := r4.next hB5
  have hT5 := below_trans hT4 hB5
  clear g4 r4 hT4 hB5 hA4 hv23 hv3 hT3
  have hA6 := below_alloc w5 (.cells #[.int .u8 2, .int .u8 3, .int .u8 1] 5)
  have hq6 := Sl.new eB w5 [2, 3, 1] #[eB 2, eB 3, eB 1] 5 (0, 0) 3 3 rfl (Nat.le_refl _) rfl
  have g6 := g5.next hA6
  have r6 := r5.next hA6
  have hT6 := below_trans hT5 hA6
  go_wp2_with fail
  go_at_call 11
  refine (same_eq _ _ _ _ _ g6 hq6).mono ?_
  rintro e w' ⟨rfl, rfl⟩
  clear g5 r5 hT5 hA6 hq6 g6
  generalize w5.alloc (.cells #[.int .u8 2, .int .u8 3, .int .u8 1] 5) = w6 at *
  have hA7 := below_alloc w6 (.cells #[.int .u8 1] 5)
  have hq7 := Sl.new eB w6 [1] #[eB 1] 5 (0, 0) 1 1 rfl (Nat.le_refl _) rfl
  have r7 := r6.next hA7
  have hT7 := below_trans hT6 hA7
  go_wp2_with fail
  go_at_call 11
  refine (same_eq _ _ _ _ _ r7 hq7).mono ?_
  rintro e w' ⟨rfl, rfl⟩
  clear r6 hT6 hA7 hq7 r7
  generalize w6.alloc (.cells #[.int .u8 1] 5) = w7 at *
  have hA8 := below_alloc w7 (.cells #[.int .u8 1, .int .u8 1] 5)
  have hq8 := Sl.new eB w7 [1, 1] #[eB 1, eB 1] 5 (0, 0) 2 2 rfl (Nat.le_refl _) rfl
  have hT8 := below_trans hT7 hA8
  go_wp2_with fail
  go_at_call 18
  refine (hr1 _ _ hq8).mono ?_
  rintro e w9 ⟨rfl, hB9⟩
  have hT9 := below_trans hT8 hB9
  have hA10 := below_alloc w9 (.cells #[.int .u8 1, .int .u8 2] 5)
  have hq10 := Sl.new eB w9 [1, 2] #[eB 1, eB 2] 5 (0, 0) 2 2 rfl (Nat.le_refl _) rfl
  have hT10 := below_trans hT9 hA10
  clear hT7 hA8 hq8 hT8 hB9
  go_wp2_with fail
  go_at_call 18
  refine (hr2 _ _ hq10).mono ?_
  rintro e w11 ⟨rfl, hB11⟩
  have hT11 := below_trans hT10 hB11
  clear hT9 hA10 hq10 hT10 hB11
  go_wp2_with fail
  go_at_call 18
  refine (hr3 w11 (Sl.nil eB _ _)).mono ?_
  rintro e w12 ⟨rfl, hB12⟩
  go_wp2
  go_ret
  exact ⟨rfl, below_trans hT11 hB12⟩
end Go.Proofs.Ytkldapdebjlfmaa
