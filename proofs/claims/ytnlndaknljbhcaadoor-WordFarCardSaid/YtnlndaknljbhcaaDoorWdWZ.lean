/- The law's own wakes, of word. -/
import Derived.Lib.SlBytesConst
import Derived.Test.YtnlndaknljbhcaaDoorWdKZ
namespace Go.Proofs.YtnlndaknljbhcaaDoor
open Go.RowKit Go.Shelf
attribute [local go_sem] Oper.semAt_some run_store_func

theorem word_take (x f : List UInt8) : (wordL x f).take x.length = x := by
  unfold wordL
  rw [List.append_assoc, List.take_left']
  rfl
theorem right_word {x f : List UInt8} (h : wfG x = .ok f) : wRightB (wordL x f) x.length = true := by
  obtain ⟨h0, hl, -⟩ := wfG_ok h
  unfold wRightB
  rw [if_pos ⟨by omega, by omega, by rw [Int.toNat_natCast]; exact wordL_length x f hl⟩, Int.toNat_natCast, word_take, h]
  exact decide_eq_true rfl
theorem wstr_of {w : World} {sv : Value} {x : List UInt8} (h : Sl eB w.heap.size w sv x) : (convert 22 9 sv).run Tryd.prog w = .ok (.string ⟨x.toArray⟩) w :=
  run_str (P := Tryd.prog) h 22 9 5 Tryd.underlying22 Tryd.underlying5 Tryd.underlying9
theorem wk_sums : sumsG [65, 67, 71, 84] = .ok (2, 2, 20) := by kernel_rfl
theorem wk_none : wfG [65] = .error 2 := by kernel_rfl
theorem wk_lett : sumsG [65, 78] = .error 10 := by kernel_rfl
theorem wk_lett2 : wfG [65, 78] = .error 10 := by unfold wfG; rw [if_pos ⟨by decide, by decide⟩, wk_lett]
theorem wk_field : wfG [65, 67, 71, 84] = .ok (fldL [65, 67, 71, 84] 2 2 20) := by unfold wfG; rw [if_pos ⟨by decide, by decide⟩, wk_sums]
theorem wk_long4 : wlongN 4 = 35 := by kernel_rfl
theorem wk_long5 : wlongN 5 = 36 := by kernel_rfl
theorem wk_long2 : wlongN 2 = 27 := by kernel_rfl
theorem wk_junc : letterOf (jN 65 67 : Nat) = 71 ∧ letterOf (jN 67 71 : Nat) = 65 := ⟨by kernel_rfl, by kernel_rfl⟩
theorem wk_word : ∃ W0 : List UInt8, (∀ v w, Tab w → TabB w → Sl eB w.heap.size w v [65, 67, 71, 84] → Calls Tryd.prog 9 #[v] w fun e w' => Below w.heap.size w w' ∧ ∃ u, e = .returned (.tuple #[u, .int .i64 0]) ∧ Sl eB w'.heap.size w' u W0) ∧
    W0.length = 35 ∧ wRightB W0 4 = true ∧ wRightB W0 5 = false ∧ W0.take 4 = [65, 67, 71, 84] := by
  have hl : (wordL [65, 67, 71, 84] (fldL [65, 67, 71, 84] 2 2 20)).length = 35 := by rw [wordL_length _ _ (fldL_length _ _ _ _)]; exact wk_long4
  refine ⟨wordL [65, 67, 71, 84] (fldL [65, 67, 71, 84] 2 2 20), fun v w h1 h2 h3 => (WMake_any v _ w h1 h2 h3).mono ?_, hl, right_word (x := [65, 67, 71, 84]) wk_field, ?_, word_take [65, 67, 71, 84] _⟩
  · rintro e w' ⟨hB, ⟨f, u, hf, rfl, hu, -⟩ | ⟨m, hm, rfl⟩⟩
    · rw [wk_field] at hf
      cases hf
      exact ⟨hB, u, rfl, hu⟩
    · rw [wk_field] at hm; cases hm
  · unfold wRightB
    rw [if_neg]
    intro h
    have h3 := h.2.2
    rw [hl] at h3
    exact absurd h3 (by rw [show (5 : Int).toNat = 5 from rfl, wk_long5]; decide)
set_option maxRecDepth 100000 in
set_option maxHeartbeats 2000000 in
theorem wwakes_any (w : World) (hT : Tab w) (hTB : TabB w) : Calls Tryd.prog 8 #[] w fun e w' => e = .returned (.bool true) ∧ Below w.heap.size w w' := by
  obtain ⟨W0, f0, hl35, hr4, hr5, ht4⟩ := wk_word
  have f1 := fun v w h1 h2 h3 => WInner_any v W0 4 w h1 h2 h3
  rw [show (4 : Int).toNat = 4 from rfl, ht4, hr4] at f1
  have f2 : ∀ v w, Tab w → TabB w → Sl eB w.heap.size w v [65] → Calls Tryd.prog 9 #[v] w fun e w' => Below w.heap.size w w' ∧ e = .returned (.tuple #[.slice none 0 0, .int .i64 2]) := fun v w h1 h2 h3 => (WMake_any v _ w h1 h2 h3).mono (by
    rintro e w' ⟨hB, ⟨f, u, hf, rfl, hu, -⟩ | ⟨m, hm, rfl⟩⟩
    · rw [wk_none] at hf; cases hf
    · rw [wk_none] at hm; cases hm; exact ⟨hB, rfl⟩)
  have f3 : ∀ v w, Tab w → TabB w → Sl eB w.heap.size w v [65, 78] → Calls Tryd.prog 9 #[v] w fun e w' => Below w.heap.size w w' ∧ e = .returned (.tuple #[.slice none 0 0, .int .i64 10]) := fun v w h1 h2 h3 => (WMake_any v _ w h1 h2 h3).mono (by
    rintro e w' ⟨hB, ⟨f, u, hf, rfl, hu, -⟩ | ⟨m, hm, rfl⟩⟩
    · rw [wk_lett2] at hf; cases hf
    · rw [wk_lett2] at hm; cases hm; exact ⟨hB, rfl⟩)
  have hz2 : wRightB [65, 67, 71, 84] 2 = false := by
    unfold wRightB
    rw [if_neg]
    intro h
    have h3 := h.2.2
    exact absurd h3 (by rw [show (2 : Int).toNat = 2 from rfl, wk_long2]; decide)
  have f4 := fun v w h1 h2 h3 => WInner_any v [65, 67, 71, 84] 2 w h1 h2 h3
  rw [hz2] at f4
  have fj1 := fun w h => Junction_any 65 67 w h
  have fj2 := fun w h => Junction_any 67 71 w h
  rw [wk_junc.1] at fj1
  rw [wk_junc.2] at fj2
  have fl4 := fun w => WLong_yes 4 (by decide) (by decide) (by decide) w
  rw [wk_long4] at fl4
  have fr4 := fun v w h1 h2 h3 => WRight_any v W0 4 w h1 h2 h3
  have fr5 := fun v w h1 h2 h3 => WRight_any v W0 5 w h1 h2 h3
  rw [hr4] at fr4
  rw [hr5] at fr5
  have fl1 := fun w => WLong_no 1 (.inl (by decide)) w
  have h35 : ((W0.length : Int) == 35) = true := by rw [hl35]; rfl
  clear hl35 hr4 hr5 ht4 hz2
  have kc := fun (w : World) (C : Array Value) (n c : Nat) => Lib.run_convert_bytes_const (P := Tryd.prog) w 22 5 C n c Tryd.underlying22 Tryd.underlying5
  go_enter Tryd.func8, Tryd.ntmps8
  have hB0 := Below.refl w.heap.size w
  have hA := below_alloc w (.cells #[.int .u8 65, .int .u8 67, .int .u8 71, .int .u8 84] 5 (4, 5))
  have hq := Sl.new eB w [65, 67, 71, 84] #[eB 65, eB 67, eB 71, eB 84] 5 (4, 5) 4 4 rfl (Nat.le_refl _) rfl
  go_wp2_with fail
  go_at_call 9
  refine (f0 _ _ (hT.below hA) (hTB.below hA) hq).mono ?_
  rintro e w1 ⟨hC, u0, rfl, hu0⟩
  have hC := below_trans hA hC
  have hT := hT.below hC
  have hTB := hTB.below hC
  have hB0 := below_trans hB0 hC
  obtain ⟨A0, k0, rfl⟩ := hu0.len
  clear hC hA hq f0
  go_wp2_with fail
  go_at_call 15
  refine (f1 _ _ hT hTB hu0).mono ?_
  rintro e w2 ⟨hC, ⟨u1, -, rfl, hu1⟩ | ⟨h, -⟩⟩
  case inr => cases h
  have hu0 := hu0.next hC
  have hT := hT.below hC
  have hTB := hTB.below hC
  have hB0 := below_trans hB0 hC
  obtain ⟨A1, k1, rfl⟩ := hu1.len
  clear hC f1
  have hA := below_alloc w2 (.cells #[.int .u8 65] 5 (1, 2))
  have hq := Sl.new eB w2 [65] #[eB 65] 5 (1, 2) 1 1 rfl (Nat.le_refl _) rfl
  go_wp2_with fail
  go_at_call 9
  refine (f2 _ _ (hT.below hA) (hTB.below hA) hq).mono ?_
  rintro e w3 ⟨hC, rfl⟩
  have hC := below_trans hA hC
  have hT := hT.below hC
  have hTB := hTB.below hC
  have hu0 := hu0.next hC
  have hu1 := hu1.next hC
  have hB0 := below_trans hB0 hC
  clear hC hA hq f2
  have hA := below_alloc w3 (.cells #[.int .u8 65, .int .u8 78] 5 (2, 3))
  have hq := Sl.new eB w3 [65, 78] #[eB 65, eB 78] 5 (2, 3) 2 2 rfl (Nat.le_refl _) rfl
  go_wp2_with fail
  go_at_call 9
  refine (f3 _ _ (hT.below hA) (hTB.below hA) hq).mono ?_
  rintro e w4 ⟨hC, rfl⟩
  have hC := below_trans hA hC
  have hT := hT.below hC
  have hTB := hTB.below hC
  have hu0 := hu0.next hC
  have hu1 := hu1.next hC
  have hB0 := below_trans hB0 hC
  clear hC hA hq f3
  have hA := below_alloc w4 (.cells #[.int .u8 65, .int .u8 67, .int .u8 71, .int .u8 84] 5 (4, 5))
  have hq := Sl.new eB w4 [65, 67, 71, 84] #[eB 65, eB 67, eB 71, eB 84] 5 (4, 5) 4 4 rfl (Nat.le_refl _) rfl
  go_wp2_with fail
  go_at_call 15
  refine (f4 _ _ (hT.below hA) (hTB.below hA) hq).mono ?_
  rintro e w5 ⟨hC, ⟨u, h, -⟩ | ⟨-, rfl⟩⟩
  case inl => cases h
  have hC := below_trans hA hC
  have hT := hT.below hC
  have hTB := hTB.below hC
  have hu0 := hu0.next hC
  have hu1 := hu1.next hC
  have hB0 := below_trans hB0 hC
  clear hC hA hq f4 kc
  go_wp2_with fail
  go_at_call 18
  refine (fj1 _ hT).mono ?_
  rintro e w' ⟨rfl, rfl⟩
  go_wp2_with fail
  go_at_call 18
  refine (fj2 _ hT).mono ?_
  rintro e w' ⟨rfl, rfl⟩
  clear fj1 fj2
  go_wp2_with fail
  go_at_call 20
  refine (fl4 _).mono ?_
  rintro e w6 ⟨rfl, hC⟩
  have hT := hT.below hC
  have hTB := hTB.below hC
  have hu0 := hu0.next hC
  have hu1 := hu1.next hC
  have hB0 := below_trans hB0 hC
  have gs : (convert 22 9 (.slice A1 4 k1)).run Tryd.prog w6 = .ok (.string ⟨#[65, 67, 71, 84]⟩) w6 := wstr_of hu1
  clear hC fl4 hu1
  go_wp2_with fail
  go_at_call 22
  refine (fr4 _ _ hT hTB hu0).mono ?_
  rintro e w7 ⟨rfl, hC⟩
  have hT := hT.below hC
  have hTB := hTB.below hC
  have hu0 := hu0.next hC
  have hB0 := below_trans hB0 hC
  clear hC fr4 gs
  go_wp2_with fail
  go_at_call 22
  refine (fr5 _ _ hT hTB hu0).mono ?_
  rintro e w8 ⟨rfl, hC⟩
  have hB0 := below_trans hB0 hC
  clear hC fr5 hu0
  go_wp2_with fail
  go_at_call 20
  refine (fl1 _).mono ?_
  rintro e w' ⟨rfl, rfl⟩
  go_wp2_with fail
  go_ret
  exact ⟨rfl, hB0⟩
end Go.Proofs.YtnlndaknljbhcaaDoor
