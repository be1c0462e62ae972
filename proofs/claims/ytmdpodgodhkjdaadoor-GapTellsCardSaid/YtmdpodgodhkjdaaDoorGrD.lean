/- Contracts of helixref13: fits, Missing, with, Rises, Gap. -/
import Derived.Test.YtmdpodgodhkjdaaDoorGpV
import Derived.Test.YtmdpodgodhkjdaaDoorRcA
import Derived.Test.YtmdpodgodhkjdaaDoorGpX
import Derived.Test.YtmdpodgodhkjdaaDoorGpJ
import Derived.Test.YtmdpodgodhkjdaaDoorRoA
namespace Go.Proofs.YtmdpodgodhkjdaaDoor
open Go.RowKit Go.Shelf
attribute [local go_sem] Oper.semAt_some run_store_func

theorem fits_cases (y : List UInt8) : ((y.length < 1 ∨ 999 < y.length) ∧ fitsG y = some 2) ∨ (1 ≤ y.length ∧ y.length ≤ 999 ∧ ¬ FourG y ∧ fitsG y = some 10) ∨ (1 ≤ y.length ∧ y.length ≤ 999 ∧ FourG y ∧ fitsG y = none) := by
  by_cases h : y.length < 1 ∨ 999 < y.length
  · exact .inl ⟨h, by rw [fitsG, if_pos h]⟩
  · by_cases h4 : FourG y
    · exact .inr (.inr ⟨by omega, by omega, h4, fits_four y (by omega) (by omega) h4⟩)
    · refine .inr (.inl ⟨by omega, by omega, h4, ?_⟩)
      rw [fitsG, if_neg h, if_pos]
      by_cases hm : (-1 : Int) ∈ codesOf y
      · exact hm
      · exfalso
        apply h4
        intro k hk e
        exact hm (List.mem_map.2 ⟨atB y k, by simp [atB, hk], e⟩)
set_option maxRecDepth 100000 in
set_option maxHeartbeats 1000000 in
theorem rfits_any (sv : Value) (y : List UInt8) (hreach : y.length ≤ 1000000) (w : World) (hS : Sl eB w.heap.size w sv y) :
    Calls Tryd.prog 36 #[sv] w fun e w' => e = .returned (.int .i64 (match fitsG y with | some m => m | none => 0)) ∧ w = w' := by
  have hV := rValid_any sv y hreach w hS
  obtain ⟨A, cap, rfl⟩ := hS.len
  rcases fits_cases y with ⟨hm, e⟩ | ⟨h1, h9, h4, e⟩ | ⟨h1, h9, h4, e⟩
  · rw [e]
    have ht : (decide ((y.length : Int) < 1) = true) ∨ (decide ((y.length : Int) < 1) = false ∧ decide ((999 : Int) < (y.length : Int)) = true) := by
      by_cases h : y.length < 1
      · exact .inl (decide_eq_true (by omega))
      · exact .inr ⟨decide_eq_false (by omega), decide_eq_true (by omega)⟩
    clear hm e hS hV
    rcases ht with d1 | ⟨d1, d2⟩
    all_goals
      go_enter Tryd.func36, Tryd.ntmps36
      go_wp2_with fail
      go_ret
      exact ⟨rfl, rfl⟩
  · rw [e]
    have d1 : decide ((y.length : Int) < 1) = false := decide_eq_false (by omega)
    have d2 : decide ((999 : Int) < (y.length : Int)) = false := decide_eq_false (by omega)
    rw [decide_eq_false (show ¬ ∀ k, k < y.length → codeOf (atB y k).toNat ≠ -1 from h4)] at hV
    clear e hS h4 h1 h9
    go_enter Tryd.func36, Tryd.ntmps36
    go_wp2_with (go_at_call 53; refine hV.mono ?_; rintro e w' ⟨rfl, rfl⟩)
    go_ret
    exact ⟨rfl, rfl⟩
  · rw [e]
    have d1 : decide ((y.length : Int) < 1) = false := decide_eq_false (by omega)
    have d2 : decide ((999 : Int) < (y.length : Int)) = false := decide_eq_false (by omega)
    rw [decide_eq_true (show ∀ k, k < y.length → codeOf (atB y k).toNat ≠ -1 from h4)] at hV
    clear e hS h4 h1 h9
    go_enter Tryd.func36, Tryd.ntmps36
    go_wp2_with (go_at_call 53; refine hV.mono ?_; rintro e w' ⟨rfl, rfl⟩)
    go_ret
    exact ⟨rfl, rfl⟩
theorem rMissing_not (y : List UInt8) (s m : Int) (hm : m ≠ 0) (h : fitsG y = some m) (hreach : y.length ≤ 1000000) (sv : Value) (w : World) (hS : Sl eB w.heap.size w sv y) :
    Calls Tryd.prog 15 #[sv, .int .i64 s] w fun e w' => e = .returned (.tuple #[eB 0, .int .i64 m]) ∧ w = w' := by
  have hF := rfits_any sv y hreach w hS
  rw [h] at hF
  obtain ⟨A, cap, rfl⟩ := hS.len
  have hm' : (m != 0) = true := by simpa using hm
  clear hS h hm
  go_enter Tryd.func15, Tryd.ntmps15
  go_wp2_with (go_at_call 36; refine hF.mono ?_; rintro e w' ⟨rfl, rfl⟩)
  go_ret2
  exact ⟨rfl, rfl⟩
theorem sS_bound (y : List UInt8) (h4 : FourG y) (k : Nat) (hk : k ≤ y.length) : 0 ≤ sS y k ∧ sS y k ≤ 3 * k := by
  induction k with
  | zero => simp [sS]
  | succ k ih =>
    have h := ih (by omega)
    have hc := letterOf_code (codeOf (atB y k).toNat)
    rw [code_letter (h4 k (by omega))] at hc
    rw [sS]
    omega
theorem missL_two (y : List UInt8) (s q : Int) (hq : q = csum y) : letterOf (s.tmod 4 - q.tmod 4) = missL y s := by
  subst hq
  unfold missL letterOf
  congr 2
  rw [Int.tmod_eq_emod, Int.tmod_eq_emod]
  split <;> split <;> simp <;> omega
set_option maxRecDepth 100000 in
set_option maxHeartbeats 1000000 in
theorem rMissing_yes (y : List UInt8) (s : Int) (h : fitsG y = none) (h4 : FourG y) (h9 : y.length ≤ 999) (sv : Value) (w : World) (hS : Sl eB w.heap.size w sv y) :
    Calls Tryd.prog 15 #[sv, .int .i64 s] w fun e w' => e = .returned (.tuple #[eB (missL y s), .int .i64 0]) ∧ w = w' := by
  have hF := rfits_any sv y (by omega) w hS
  rw [h] at hF
  have hC := fun c w => refCode_any c w
  have hL := fun k w => rLetter_any k w
  obtain ⟨A, cap, rfl, _, hcs⟩ := hS
  have b1 : -3 ≤ s.tmod 4 ∧ s.tmod 4 ≤ 3 := by
    rw [Int.tmod_eq_emod]
    split <;> omega
  have HM := Lib.hid (fun q hq => missL_two y s q hq)
  clear h
  go_enter Tryd.func15, Tryd.ntmps15
  go_wp2_with (go_at_call 36; refine hF.mono ?_; rintro e w' ⟨rfl, rfl⟩)
  go_loop [7, 8] (fun v i => ∃ k : Nat, k ≤ y.length ∧ i = .int .i64 k ∧ v = .int .i64 (sS y k)) (fun _ i => y.length - (intOf i).toNat)
  case atStart => exact ⟨0, Nat.zero_le _, rfl, rfl⟩
  case round =>
    obtain ⟨k, hk, rfl, rfl⟩ := hrel
    have hb := sS_bound y h4 k hk
    by_cases hlt : k < y.length
    · obtain ⟨bk, off, rfl, hb', hcell⟩ := hcs (by omega)
      have hx := hcell k _ (atB_lt hlt)
      have hkl : (k : Int) < y.length := by omega
      have hC1 := hC (atB y k)
      simp only [if_neg (h4 k hlt)] at hC1
      have hb2 := sS_bound y h4 (k + 1) hlt
      have es : sS y (k + 1) = sS y k + codeOf (atB y k).toNat := rfl
      rw [es] at hb2
      have Hs := Lib.hid es
      have hwr : wrap64 (sS y k + codeOf (atB y k).toNat) = sS y k + codeOf (atB y k).toNat := wrap64_small _ hb2.1 (by omega)
      have Hk := Lib.hid hlt
      clear es hcell hcs hlt hb hb2 hC
      generalize sS y k = u at *
      generalize atB y k = c at *
      generalize codeOf c.toNat = q at *
      go_wp2_with (go_at_call 37; refine (hC1 _).mono ?_; rintro e w' ⟨rfl, rfl⟩)
      go_round
      case rel => exact ⟨k + 1, Hk.out, by go_num, by rw [Hs.out, hwr]⟩
      case measure => have := Hk.out; simp [intOf]; omega
    · obtain rfl : k = y.length := by omega
      have hM := HM.out _ (sS_all y)
      have b2 : -3 ≤ (sS y y.length).tmod 4 ∧ (sS y y.length).tmod 4 ≤ 3 := by
        rw [Int.tmod_eq_emod]
        split <;> omega
      have hkd : decide ((y.length : Int) < (y.length : Int)) = false := decide_eq_false (by omega)
      clear hcs hb hC hF
      generalize sS y y.length = u at *
      go_wp2_with (go_at_call 38; refine (hL _ _).mono ?_; rintro e w' ⟨rfl, rfl⟩)
      go_ret2
      exact ⟨rfl, rfl⟩

theorem one_slR (w : World) (g : Nat) (c : UInt8) (h : w.cell? ⟨g, 0, none⟩ = some (eB c)) : Sl eB w.heap.size w (.slice (some ⟨g, 0, none⟩) 1 1) [c] :=
  ⟨_, 1, rfl, Nat.le_refl _, fun _ => ⟨g, 0, rfl, World.block_lt_of_cell? w _ h, fun j x hx => by
    rcases j with _ | j
    · simp at hx; subst hx; exact h
    · simp at hx⟩⟩
set_option maxRecDepth 100000 in
set_option maxHeartbeats 4000000 in
theorem with_any (sv : Value) (y : List UInt8) (p : Nat) (c : UInt8) (h0 : 1 ≤ y.length) (h9 : y.length ≤ 999) (hp : p ≤ y.length) (w : World) (hS : Sl eB w.heap.size w sv y) :
    Calls Tryd.prog 42 #[sv, .int .i64 p, eB c] w fun e w' => ∃ v, e = .returned v ∧ Sl eB w'.heap.size w' v (insW y p c) ∧ Below w.heap.size w w' := by
  obtain ⟨i0, hi, hz0, hz1, hz2⟩ := info_parts info_u8
  obtain ⟨b, off, cx, rfl, hcx, hb, hcells⟩ := sl_at hS (by omega)
  have Hl := Lib.hid h9
  have q1 : 0 + (y.take p).length ≤ maxLen := by have := Hl.out; unfold maxLen; simp; omega
  have q2 : (0 + (y.take p).length) * 1 ≤ 140737488355328 := by have := Hl.out; simp; omega
  have q3 : 0 + (y.take p).length + [c].length ≤ maxLen := by have := Hl.out; unfold maxLen; simp; omega
  have q4 : (0 + (y.take p).length + [c].length) * 1 ≤ 140737488355328 := by have := Hl.out; simp; omega
  have q5 : 0 + (y.take p).length + [c].length + (y.drop p).length ≤ maxLen := by have := Hl.out; unfold maxLen; simp; omega
  have q6 : (0 + (y.take p).length + [c].length + (y.drop p).length) * 1 ≤ 140737488355328 := by have := Hl.out; simp; omega
  have w1_ : Below w.heap.size w (w.alloc (.cells #[] 5)).drew := ((Below.refl _ _).alloc (Nat.le_refl _) _).drew
  have w2_ : Below w.heap.size w ((w.alloc (.cells #[] 5)).alloc (.cells #[eB c] 5)).drew := (((Below.refl _ _).alloc (Nat.le_refl _) _).alloc (by simp) _).drew
  have w3_ : Below w.heap.size w ((w.alloc (.cells #[eB c] 5)).alloc (.cells #[] 5)).drew := (((Below.refl _ _).alloc (Nat.le_refl _) _).alloc (by simp) _).drew
  have r1 : (w.alloc (.cells #[] 5)).drew.ownsRow w.heap.size 5 1 (.slice (some ⟨w.heap.size, 0, none⟩) 0 0) 0 [] := row_made w
  have r2 : ((w.alloc (.cells #[] 5)).alloc (.cells #[eB c] 5)).drew.ownsRow w.heap.size 5 1 (.slice (some ⟨w.heap.size, 0, none⟩) 0 0) 0 [] := (row_made w).alloc _
  have r3 : ((w.alloc (.cells #[eB c] 5)).alloc (.cells #[] 5)).drew.ownsRow w.heap.size 5 1 (.slice (some ⟨w.heap.size + 1, 0, none⟩) 0 0) 0 [] := by
    have := World.ownsRow_made (base := w.heap.size) (e := 5) (size := 1) (w.alloc (.cells #[eB c] 5)) #[] 0 (by simp) (by unfold maxLen; omega) rfl
    rw [World.size_alloc] at this
    exact this
  have k2 : ((w.alloc (.cells #[] 5)).alloc (.cells #[eB c] 5)).drew.cell? ⟨w.heap.size + 1, 0, none⟩ = some (eB c) := by
    have := cell_one_new (w.alloc (.cells #[] 5)) 5 (eB c) 0 (eB c) rfl
    rw [World.size_alloc] at this
    exact this
  have k3 : ((w.alloc (.cells #[eB c] 5)).alloc (.cells #[] 5)).drew.cell? ⟨w.heap.size, 0, none⟩ = some (eB c) := by
    have h0 := cell_one_new w 5 (eB c) 0 (eB c) rfl
    have h1 : Below (w.heap.size + 1) (w.alloc (.cells #[eB c] 5)) ((w.alloc (.cells #[eB c] 5)).alloc (.cells #[] 5)) := (Below.refl _ _).alloc (by simp) _
    exact (h1.cell (p := ⟨w.heap.size, 0, none⟩) (by simp)).trans h0
  have n2 : some (w.heap.size + 1) ≠ (Value.slice (some ⟨w.heap.size, 0, none⟩) 0 0).ownBlock := by simp [Value.ownBlock]
  have n3 : some w.heap.size ≠ (Value.slice (some ⟨w.heap.size + 1, 0, none⟩) 0 0).ownBlock := by simp [Value.ownBlock]
  have s1 := hS.upto (p := p) hp
  have s2 := from_ex (p := p) hS hp
  have l1 : (p : Int) ≤ cx := by omega
  have l2 : (p : Int) ≤ y.length := by omega
  clear hcells hS hb
  by_cases hcp : cx = p
  · subst hcp
    replace s2 := s2.1 rfl
    clear h0 h9 hp hcx
    go_enter Tryd.func42, Tryd.ntmps42
    go_wp2_with fail
    go_region_law (first
      | (refine step_append_sl _ rfl (.tmp 7) (.tmp 10) _ rfl w.heap.size 5 i0 (.int .u8 0) 1 Tryd.underlying22 hi hz0 hz1 hz2 rfl _ 0 [] r1 rfl w.heap.size _ (y.take cx) (s1.below w1_) rfl (fun _ => rfl) q1 q2 w1_.size ?_
         intro v1 w3 hown1 hg1 hat1
         have hB2 : Below w.heap.size w w3 := w1_.trans (below_grown r1 hg1 w1_.size (Nat.le_refl _))
         have hown2 := hown1.alloc (.cells #[eB c] 5)
         have hB3 : Below w.heap.size w (w3.alloc (.cells #[eB c] 5)) := hB2.alloc hB2.size _
         have hc1 := Sl.new eB w3 [c] #[eB c] 5 (0, 0) 1 1 rfl (Nat.le_refl _) (by simp))
      | (refine step_append_sl _ rfl (.tmp 7) (.tmp 10) _ rfl w.heap.size 5 i0 (.int .u8 0) 1 Tryd.underlying22 hi hz0 hz1 hz2 rfl _ 0 [] r3 rfl w.heap.size _ (y.take cx) (s1.below w3_) rfl (fun _ => rfl) q1 q2 w3_.size ?_
         intro v1 w3 hown2 hg1 hat1
         have hB3 : Below w.heap.size w w3 := w3_.trans (below_grown r3 hg1 w3_.size (Nat.le_refl _))
         have hc1 := one_slR w3 w.heap.size c ((World.cell?_of_block (a := ⟨w.heap.size, 0, none⟩) (hg1.block w.heap.size (World.block_lt_of_cell? _ _ k3) n3)).trans k3))
      | (refine step_append_sl _ rfl (.tmp 11) (.tmp 13) _ rfl w.heap.size 5 i0 (.int .u8 0) 1 Tryd.underlying22 hi hz0 hz1 hz2 rfl _ _ _ hown2 rfl _ _ [c] hc1 rfl (fun _ => rfl) q3 q4 hB3.size ?_
         intro v2 w4 hown4 hg4 hat4
         have hB4 : Below w.heap.size w w4 := hB3.trans (below_grown hown2 hg4 hB3.size (Nat.le_refl _)))
      | (refine step_append_sl _ rfl (.tmp 14) (.tmp 17) _ rfl w.heap.size 5 i0 (.int .u8 0) 1 Tryd.underlying22 hi hz0 hz1 hz2 rfl _ _ _ hown4 rfl w.heap.size _ (y.drop cx) (s2.below hB4) rfl (fun _ => rfl) q5 q6 hB4.size ?_
         intro v5 w5 hown5 hg5 hat5
         have hB5 : Below w.heap.size w w5 := hB4.trans (below_grown hown4 hg5 hB4.size (Nat.le_refl _)))
      | (refine step_append_sl _ rfl (.tmp 7) (.tmp 10) _ rfl w.heap.size 5 i0 (.int .u8 0) 1 Tryd.underlying22 hi hz0 hz1 hz2 rfl _ 0 [] r2 rfl w.heap.size _ (y.take cx) (s1.below w2_) rfl (fun _ => rfl) q1 q2 w2_.size ?_
         intro v1 w3 hown2 hg1 hat1
         have hB3 : Below w.heap.size w w3 := w2_.trans (below_grown r2 hg1 w2_.size (Nat.le_refl _))
         have hc1 := one_slR w3 (w.heap.size + 1) c ((World.cell?_of_block (a := ⟨w.heap.size + 1, 0, none⟩) (hg1.block (w.heap.size + 1) (World.block_lt_of_cell? _ _ k2) n2)).trans k2)))
    all_goals
      go_wp2_with fail
      go_ret
      exact ⟨v5, rfl, Sl.of_own (n := 0 + (y.take cx).length + [c].length + (y.drop cx).length) (by simpa [insW] using hown5), hB5⟩
  · replace s2 := s2.2 hcp
    clear h0 h9 hp hcx
    go_enter Tryd.func42, Tryd.ntmps42
    go_wp2_with fail
    go_region_law (first
      | (refine step_append_sl _ rfl (.tmp 7) (.tmp 10) _ rfl w.heap.size 5 i0 (.int .u8 0) 1 Tryd.underlying22 hi hz0 hz1 hz2 rfl _ 0 [] r1 rfl w.heap.size _ (y.take p) (s1.below w1_) rfl (fun _ => rfl) q1 q2 w1_.size ?_
         intro v1 w3 hown1 hg1 hat1
         have hB2 : Below w.heap.size w w3 := w1_.trans (below_grown r1 hg1 w1_.size (Nat.le_refl _))
         have hown2 := hown1.alloc (.cells #[eB c] 5)
         have hB3 : Below w.heap.size w (w3.alloc (.cells #[eB c] 5)) := hB2.alloc hB2.size _
         have hc1 := Sl.new eB w3 [c] #[eB c] 5 (0, 0) 1 1 rfl (Nat.le_refl _) (by simp))
      | (refine step_append_sl _ rfl (.tmp 7) (.tmp 10) _ rfl w.heap.size 5 i0 (.int .u8 0) 1 Tryd.underlying22 hi hz0 hz1 hz2 rfl _ 0 [] r3 rfl w.heap.size _ (y.take p) (s1.below w3_) rfl (fun _ => rfl) q1 q2 w3_.size ?_
         intro v1 w3 hown2 hg1 hat1
         have hB3 : Below w.heap.size w w3 := w3_.trans (below_grown r3 hg1 w3_.size (Nat.le_refl _))
         have hc1 := one_slR w3 w.heap.size c ((World.cell?_of_block (a := ⟨w.heap.size, 0, none⟩) (hg1.block w.heap.size (World.block_lt_of_cell? _ _ k3) n3)).trans k3))
      | (refine step_append_sl _ rfl (.tmp 11) (.tmp 13) _ rfl w.heap.size 5 i0 (.int .u8 0) 1 Tryd.underlying22 hi hz0 hz1 hz2 rfl _ _ _ hown2 rfl _ _ [c] hc1 rfl (fun _ => rfl) q3 q4 hB3.size ?_
         intro v2 w4 hown4 hg4 hat4
         have hB4 : Below w.heap.size w w4 := hB3.trans (below_grown hown2 hg4 hB3.size (Nat.le_refl _)))
      | (refine step_append_sl _ rfl (.tmp 14) (.tmp 17) _ rfl w.heap.size 5 i0 (.int .u8 0) 1 Tryd.underlying22 hi hz0 hz1 hz2 rfl _ _ _ hown4 rfl w.heap.size _ (y.drop p) (s2.below hB4) rfl (fun _ => rfl) q5 q6 hB4.size ?_
         intro v5 w5 hown5 hg5 hat5
         have hB5 : Below w.heap.size w w5 := hB4.trans (below_grown hown4 hg5 hB4.size (Nat.le_refl _)))
      | (refine step_append_sl _ rfl (.tmp 7) (.tmp 10) _ rfl w.heap.size 5 i0 (.int .u8 0) 1 Tryd.underlying22 hi hz0 hz1 hz2 rfl _ 0 [] r2 rfl w.heap.size _ (y.take p) (s1.below w2_) rfl (fun _ => rfl) q1 q2 w2_.size ?_
         intro v1 w3 hown2 hg1 hat1
         have hB3 : Below w.heap.size w w3 := w2_.trans (below_grown r2 hg1 w2_.size (Nat.le_refl _))
         have hc1 := one_slR w3 (w.heap.size + 1) c ((World.cell?_of_block (a := ⟨w.heap.size + 1, 0, none⟩) (hg1.block (w.heap.size + 1) (World.block_lt_of_cell? _ _ k2) n2)).trans k2)))
    all_goals
      go_wp2_with fail
      go_ret
      exact ⟨v5, rfl, Sl.of_own (n := 0 + (y.take p).length + [c].length + (y.drop p).length) (by simpa [insW] using hown5), hB5⟩

theorem own_keep {B n size : Nat} {e : TypeId} {w w' : World} {v : Value} {xs : List Value} (h : w.ownsRow B e size v n xs) (hB : Below w.heap.size w w') : w'.ownsRow B e size v n xs := by
  rcases h with ⟨h1, h2⟩
  refine ⟨h1, ?_⟩
  rcases h2 with h2 | ⟨g, cap, cur, e, hb, hg, hl, hc, hs, ht⟩
  · exact .inl h2
  · exact .inr ⟨g, cap, cur, e, hb, (hB.block g (Array.getElem?_eq_some_iff.1 hg).1).trans hg, hl, hc, hs, ht⟩
theorem rRises_no (y : List UInt8) (c : UInt8) (m : Int) (h : risesG y c = .error m) (hreach : y.length ≤ 1000000) (sv : Value) (w : World) (hS : Sl eB w.heap.size w sv y) :
    Calls Tryd.prog 17 #[sv, eB c] w fun e w' => e = .returned (.tuple #[.slice none 0 0, .int .i64 m]) ∧ w = w' := by
  have hF := rfits_any sv y hreach w hS
  have hC := fun w => refCode_any c w
  obtain ⟨A, cap, rfl⟩ := hS.len
  cases hf : fitsG y with
  | some m' =>
    rw [risesG, hf] at h
    cases h
    rw [hf] at hF
    have hm' : (m != 0) = true := by
      have : m ≠ 0 := by rcases fits_cases y with ⟨_, e⟩ | ⟨_, _, _, e⟩ | ⟨_, _, _, e⟩ <;> rw [hf] at e <;> cases e <;> decide
      simpa using this
    clear hS hf hC
    go_enter Tryd.func17, Tryd.ntmps17
    go_wp2_with (go_at_call 36; refine hF.mono ?_; rintro e w' ⟨rfl, rfl⟩)
    go_ret2
    exact ⟨rfl, rfl⟩
  | none =>
    rw [risesG, hf] at h
    rw [hf] at hF
    by_cases hc : codeOf c.toNat = -1
    · simp only [if_pos hc] at h hC
      cases h
      clear hS hf hc
      go_enter Tryd.func17, Tryd.ntmps17
      go_wp2_with (first
        | (go_at_call 36; refine hF.mono ?_; rintro e w' ⟨rfl, rfl⟩)
        | (go_at_call 37; refine (hC _).mono ?_; rintro e w' ⟨rfl, rfl⟩))
      go_ret2
      exact ⟨rfl, rfl⟩
    · simp only [if_neg hc] at h
      cases h
theorem ins_sums (y : List UInt8) (c : UInt8) (k : Nat) (h1 : 1 ≤ y.length) (h9 : y.length ≤ 999) (hk : k ≤ y.length) (h4 : FourG y) (hc : codeOf c.toNat ≠ -1) : ∃ S U, sumsG (insW y k c) = .ok (placesG y c k, S, U) := by
  have hl := insW_length y k c hk
  refine ⟨sS (insW y k c) (insW y k c).length % 4, sW (insW y k c) (insW y k c).length % (6 * (insW y k c).length + 1), ?_⟩
  rw [four_sums (insW y k c) (by omega) (by omega) (four_ins y k c hk h4 hc), hl, tG_ins y c k hk, placesG]
  norm_cast
theorem range_snoc (y : List UInt8) (c : UInt8) (k : Nat) : (List.range (k + 1)).map (placesG y c) = (List.range k).map (placesG y c) ++ [placesG y c k] := by
  rw [List.range_succ, List.map_append]; rfl
set_option maxRecDepth 100000 in
set_option maxHeartbeats 4000000 in
theorem rRises_yes (y : List UInt8) (c : UInt8) (h1 : 1 ≤ y.length) (h9 : y.length ≤ 999) (h4 : FourG y) (hc : codeOf c.toNat ≠ -1) (sv : Value) (w : World) (hS : Sl eB w.heap.size w sv y) :
    Calls Tryd.prog 17 #[sv, eB c] w fun e w' => ∃ v, e = .returned (.tuple #[v, .int .i64 0]) ∧ Sl eI w'.heap.size w' v ((List.range (y.length + 1)).map (placesG y c)) ∧ Below w.heap.size w w' := by
  obtain ⟨i0, hi, hz0, hz1, hz2⟩ := info_parts info_int
  have hF := rfits_any sv y (by omega) w hS
  rw [fits_four y h1 h9 h4] at hF
  have hC := fun w => refCode_any c w
  simp only [if_neg hc] at hC
  have hW := fun k hk v w => with_any v y k c h1 h9 hk w
  obtain ⟨A, cap, rfl⟩ := hS.len
  have H := Lib.hid (And.intro h1 (And.intro h9 (And.intro h4 hc)))
  generalize codeOf c.toNat = qc at hC
  clear h4 hc
  go_enter Tryd.func17, Tryd.ntmps17
  go_wp2_with (first
    | (go_at_call 36; refine hF.mono ?_; rintro e w' ⟨rfl, rfl⟩)
    | (go_at_call 37; refine (hC _).mono ?_; rintro e w' ⟨rfl, rfl⟩))
  go_loopw [7, 8] (fun v i wr => ∃ k : Nat, k ≤ y.length + 1 ∧ i = .int .i64 k ∧ wr.ownsRow w.heap.size 3 1 v k (((List.range k).map (placesG y c)).map eI) ∧ Below w.heap.size w wr) (fun _ i _ => y.length + 1 - (intOf i).toNat)
  case atStart => exact ⟨0, Nat.zero_le _, rfl, World.ownsRow_nil _ _ _ _, Below.refl _ _⟩
  case round =>
    obtain ⟨k, hk, rfl, hrow, hB⟩ := hrel
    by_cases hlt : k ≤ y.length
    · have hkd : decide ((k : Int) ≤ (y.length : Int)) = true := decide_eq_true (by omega)
      have hS2 := hS.next hB
      obtain ⟨S, U, hsum⟩ := ins_sums y c k h1 h9 hlt H.out.2.2.1 H.out.2.2.2
      have hWk := hW k hlt _ _ hS2
      have hOf := fun v w => rOf_any v (insW y k c) (by rw [insW_length y k c hlt]; omega) w
      rw [hsum] at hOf
      have Hs := Lib.hid (range_snoc y c k)
      have Hk := Lib.hid hlt
      have hcl : (v3 (placesG y c k) S U).cells = c3 (placesG y c k) S U := rfl
      generalize placesG y c k = g at *
      clear hlt hk hsum hW
      go_wp2_with fail
      go_at_call 42
      refine hWk.mono ?_
      rintro e w1 ⟨v1, rfl, hv1, hC1⟩
      obtain ⟨A1, k1, rfl⟩ := hv1.len
      have hrow := own_keep hrow hC1
      have hB := below_trans hB hC1
      clear hWk hC1 hS2
      go_wp2_with fail
      go_at_call 22
      refine (hOf _ _ hv1).mono ?_
      rintro e w2 ⟨hC1, ⟨a2, b2, c2, h, rfl⟩ | ⟨m, h, rfl⟩⟩
      · cases h
        have hrow := own_keep hrow hC1
        have hB := below_trans hB hC1
        have hA := below_alloc w2 (.cells (c3 g S U) 36)
        have hr2 := Rowed.new w2 36 (c3 g S U)
        have k0 := hr2.cell 0
        have hrow := hrow.alloc (.cells (c3 g S U) 36)
        have hB := below_trans hB hA
        have hm : k + 1 ≤ maxLen := by unfold maxLen; have := Hk.out; omega
        have hk8 : (k + 1) * 8 ≤ 140737488355328 := by have := Hk.out; omega
        have hsz : (w2.alloc (.cells (c3 g S U) 36)).heap.size = w2.heap.size + 1 := by simp
        have kc : ∀ j u, ([.int .i64 g] : List Value)[j]? = some u → ((w2.alloc (.cells (c3 g S U) 36)).alloc (.cells #[.int .i64 g] 3)).cell? ((⟨w2.heap.size + 1, 0, none⟩ : Addr).add j) = some u := by
          have := cell_one_new (w2.alloc (.cells (c3 g S U) 36)) 3 (.int .i64 g)
          rwa [hsz] at this
        have hrow2 := hrow.alloc (.cells #[.int .i64 g] 3)
        have hB2 := below_trans hB (below_alloc (w2.alloc (.cells (c3 g S U) 36)) (.cells #[.int .i64 g] 3))
        have hbs := hB2.size
        clear hOf hC1 hv1 hr2 hA hsz hrow hB
        go_wp2_with (at_builtin; refine wpList_append_own _ rfl _ _ 27 rfl w.heap.size 3 i0 (.int .i64 0) 1 8 Tryd.underlying27 hi hz0 hz1 hz2 rfl (by decide) _ _ _ rfl hrow2 ⟨w2.heap.size + 1, 0, none⟩ 1 1 [.int .i64 g] rfl rfl kc (by simp [Value.oneCell']) hm hk8 hbs ?_; intro v' w4 hown' hgrow _)
        have hB4 := hB2.trans (below_grown hrow2 hgrow hbs (Nat.le_refl _))
        go_roundw
        case rel => exact ⟨k + 1, by have := Hk.out; omega, by go_num, by rw [Hs.out]; simpa using hown', hB4⟩
        case measure => have := Hk.out; simp [intOf]; omega
      · cases h
    · obtain rfl : k = y.length + 1 := by omega
      have hkd : decide (((y.length + 1 : Nat) : Int) ≤ (y.length : Int)) = false := decide_eq_false (by omega)
      have hsl := Sl.of_own (enc := eI) (n := y.length + 1) hrow
      obtain ⟨Ao, co, e⟩ := hsl.len
      subst e
      clear hrow
      go_wp2_with fail
      go_ret2
      exact ⟨_, rfl, hsl, hB⟩

theorem fitsG_ne (y : List UInt8) (m : Int) (h : fitsG y = some m) : m ≠ 0 := by
  rcases fits_cases y with ⟨_, e⟩ | ⟨_, _, _, e⟩ | ⟨_, _, _, e⟩ <;> rw [h] at e <;> cases e <;> decide
theorem rGap_bad (y : List UInt8) (t s m : Int) (h : fitsG y = some m) (hreach : y.length ≤ 1000000) (sv : Value) (w : World) (hS : Sl eB w.heap.size w sv y) :
    Calls Tryd.prog 19 #[sv, .int .i64 t, .int .i64 s] w fun e w' => e = .returned (.tuple #[.slice none 0 0, .int .i64 m]) ∧ w = w' := by
  have hM := rMissing_not y s m (fitsG_ne y m h) h hreach sv w hS
  obtain ⟨A, cap, rfl⟩ := hS.len
  have hm' : (m != 0) = true := by simpa using fitsG_ne y m h
  clear hS h
  go_enter Tryd.func19, Tryd.ntmps19
  go_wp2_with (go_at_call 15; refine hM.mono ?_; rintro e w' ⟨rfl, rfl⟩)
  go_ret2
  exact ⟨rfl, rfl⟩
theorem rGap_num (y : List UInt8) (t s : Int) (h : fitsG y = none) (h4 : FourG y) (h9 : y.length ≤ 999) (hs : s < 0 ∨ 3 < s) (sv : Value) (w : World) (hS : Sl eB w.heap.size w sv y) :
    Calls Tryd.prog 19 #[sv, .int .i64 t, .int .i64 s] w fun e w' => e = .returned (.tuple #[.slice none 0 0, .int .i64 130]) ∧ w = w' := by
  have hM := rMissing_yes y s h h4 h9 sv w hS
  obtain ⟨A, cap, rfl⟩ := hS.len
  have hd : decide (s < 0) = true ∨ (decide (s < 0) = false ∧ decide (3 < s) = true) := by
    by_cases h0 : s < 0
    · exact .inl (decide_eq_true h0)
    · exact .inr ⟨decide_eq_false h0, decide_eq_true (by omega)⟩
  clear hS h h4 hs
  generalize missL y s = c at *
  rcases hd with d1 | ⟨d1, d2⟩
  all_goals
    go_enter Tryd.func19, Tryd.ntmps19
    go_wp2_with (go_at_call 15; refine hM.mono ?_; rintro e w' ⟨rfl, rfl⟩)
    go_ret2
    exact ⟨rfl, rfl⟩
abbrev RGapIs (y : List UInt8) (t s : Int) (W : World) : Ending → World → Prop := fun e w' => Below W.heap.size W w' ∧ ((∃ r v, gapG y t s = .ok r ∧ e = .returned (.tuple #[v, .int .i64 0]) ∧ Sl eB w'.heap.size w' v r) ∨ ∃ m, gapG y t s = .error m ∧ e = .returned (.tuple #[.slice none 0 0, .int .i64 m]))
set_option maxRecDepth 100000 in
set_option maxHeartbeats 4000000 in
theorem rGap_main (y : List UInt8) (t s : Int) (h1 : 1 ≤ y.length) (h9 : y.length ≤ 999) (h4 : FourG y) (s0 : 0 ≤ s) (s3 : s ≤ 3) (sv : Value) (w : World) (hS : Sl eB w.heap.size w sv y) :
    Calls Tryd.prog 19 #[sv, .int .i64 t, .int .i64 s] w (RGapIs y t s w) := by
  have hf := fits_four y h1 h9 h4
  have Hg := Lib.hid (show gapG y t s = match (List.range (y.length + 1)).find? (hitG y t s) with
    | none => .error 130
    | some p => .ok (insW y p (missL y s)) by rw [gapG, hf]; simp only [if_neg (show ¬ (s < 0 ∨ 3 < s) by omega)]; cases (List.range (y.length + 1)).find? (hitG y t s) <;> rfl)
  have hM := rMissing_yes y s hf h4 h9 sv w hS
  have hR := fun v w => rRises_yes y (missL y s) h1 h9 h4 (letterOf_ok _) v w
  have hW := fun k hk v w => with_any v y k (missL y s) h1 h9 hk w
  have hh := fun k => (show hitG y t s k = (placesG y (missL y s) k == t) from rfl)
  obtain ⟨A, cap, rfl⟩ := hS.len
  have d1 : decide (s < 0) = false := decide_eq_false (by omega)
  have d2 : decide (3 < s) = false := decide_eq_false (by omega)
  have Hh := Lib.hid hh
  generalize missL y s = c at *
  clear h4 hf hh
  go_enter Tryd.func19, Tryd.ntmps19
  go_wp2_with (go_at_call 15; refine hM.mono ?_; rintro e w' ⟨rfl, rfl⟩)
  go_at_call 17
  refine (hR _ _ hS).mono ?_
  rintro e w1 ⟨vl, rfl, hl, hB⟩
  have hS := hS.next hB
  obtain ⟨b, off, cs, rfl, hb, hcell⟩ := sl_row hl
  clear hM hR hl
  go_wp2_with fail
  go_loopw [12] (fun i wr => ∃ k : Nat, k ≤ y.length + 1 ∧ i = .int .i64 k ∧ (∀ j, j < k → hitG y t s j = false) ∧ wr = w1) (fun i _ => y.length + 1 - (intOf i).toNat)
  case atStart => exact ⟨0, Nat.zero_le _, rfl, fun j hj => absurd hj (by omega), rfl⟩
  case round =>
    obtain ⟨k, hk, rfl, hno, rfl⟩ := hrel
    by_cases hlt : k < y.length + 1
    · have hki : (k : Int) < (y.length : Int) + 1 := by omega
      have hkc := hcell k (by omega)
      have hWk := hW k (by omega) _ _ hS
      have Hno := Lib.hid hno
      have Hm := Lib.hid hlt
      have hhk := Hh.out k
      cases hq : hitG y t s k with
      | true =>
        have hg : gapG y t s = .ok (insW y k c) := by rw [Hg.out, firstG (n := y.length + 1) hlt hq hno]
        have Hg := Lib.hid hg
        rw [hq] at hhk
        have hgt : (placesG y c k == t) = true := hhk.symm
        clear hhk hg hno hlt hcell hW hq
        generalize placesG y c k = g at *
        go_wp2_with fail
        go_at_call 42
        refine hWk.mono ?_
        rintro e w2 ⟨v, rfl, hv, hC⟩
        obtain ⟨A2, k2, rfl⟩ := hv.len
        go_wp2_with fail
        go_ret2
        exact ⟨below_trans hB hC, .inl ⟨_, _, Hg.out, rfl, hv⟩⟩
      | false =>
        rw [hq] at hhk
        have hgt : (placesG y c k == t) = false := hhk.symm
        have Hne := Lib.hid (show ∀ j, j < k + 1 → hitG y t s j = false from fun j hj => by
          by_cases h : j = k
          · rw [h]; exact hq
          · exact Hno.out j (by omega))
        clear hhk hno hlt hcell hW hq hWk
        generalize placesG y c k = g at *
        go_wp2_with fail
        go_roundw
        case rel => exact ⟨k + 1, by have := Hm.out; omega, by go_num, Hne.out, trivial⟩
        case measure => have := Hm.out; simp [intOf]; omega
    · obtain rfl : k = y.length + 1 := by omega
      have hkd : decide (((y.length + 1 : Nat) : Int) < (y.length : Int) + 1) = false := decide_eq_false (by omega)
      have hg : gapG y t s = .error 130 := by rw [Hg.out, noneG (n := y.length + 1) hno]
      have Hg := Lib.hid hg
      clear hg hno hcell hW hlt hk
      go_wp2_with fail
      go_ret2
      exact ⟨hB, .inr ⟨130, Hg.out, rfl⟩⟩
theorem rGap_any (y : List UInt8) (t s : Int) (hreach : y.length ≤ 1000000) (sv : Value) (w : World) (hS : Sl eB w.heap.size w sv y) :
    Calls Tryd.prog 19 #[sv, .int .i64 t, .int .i64 s] w (RGapIs y t s w) := by
  rcases fits_cases y with ⟨_, e⟩ | ⟨_, _, _, e⟩ | ⟨h1, h9, h4, e⟩
  · refine (rGap_bad y t s 2 e hreach sv w hS).mono ?_
    rintro e' w' ⟨rfl, rfl⟩
    exact ⟨Below.refl _ _, .inr ⟨2, by rw [gapG, e], rfl⟩⟩
  · refine (rGap_bad y t s 10 e hreach sv w hS).mono ?_
    rintro e' w' ⟨rfl, rfl⟩
    exact ⟨Below.refl _ _, .inr ⟨10, by rw [gapG, e], rfl⟩⟩
  · by_cases hs : s < 0 ∨ 3 < s
    · refine (rGap_num y t s e h4 h9 hs sv w hS).mono ?_
      rintro e' w' ⟨rfl, rfl⟩
      exact ⟨Below.refl _ _, .inr ⟨130, by rw [gapG, e]; simp only [if_pos hs], rfl⟩⟩
    · exact rGap_main y t s h1 h9 h4 (by omega) (by omega) sv w hS
end Go.Proofs.YtmdpodgodhkjdaaDoor
