/- GapOnly. -/
import Derived.Test.YtmdpodgodhkjdaaDoorGpX
import Derived.Test.YtmdpodgodhkjdaaDoorGpZ
import Derived.Test.YtmdpodgodhkjdaaDoorRcA
namespace Go.Proofs.YtmdpodgodhkjdaaDoor
open Go.RowKit Go.Shelf
attribute [local go_sem] Oper.semAt_some run_store_func

theorem at_isH (z : Int) (L : Nat) (hL : L ≤ 200) : ∃ k : Nat, k ≤ L ∧ (wrap64 (z.tmod ((L : Int) + 1) + ((L : Int) + 1))).tmod ((L : Int) + 1) = (k : Int) := by
  have h1 : z.tmod ((L : Int) + 1) < (L : Int) + 1 := Int.tmod_lt_of_pos z (by omega)
  have h2 : -((L : Int) + 1) < z.tmod ((L : Int) + 1) := by
    have := Int.lt_tmod_of_pos z (show (0 : Int) < (L : Int) + 1 by omega)
    omega
  generalize z.tmod ((L : Int) + 1) = r at *
  have e1 : wrap64 (r + ((L : Int) + 1)) = r + (L + 1) := wrap64_small _ (by omega) (by omega)
  rw [e1]
  have h3 : (r + (L + 1)).tmod ((L : Int) + 1) < (L : Int) + 1 := Int.tmod_lt_of_pos _ (by omega)
  have h4 : 0 ≤ (r + (L + 1)).tmod ((L : Int) + 1) := Int.tmod_nonneg _ (by omega)
  exact ⟨((r + (L + 1)).tmod ((L : Int) + 1)).toNat, by omega, by omega⟩
/-- Is there a place whose sum is t, ahead of k? -/
def anyB (x : List UInt8) (c : UInt8) (t : Int) (k : Nat) : Bool := (List.range k).any fun j => placesG x c j == t
theorem anyB_succ (x : List UInt8) (c : UInt8) (t : Int) (k : Nat) : anyB x c t (k + 1) = (anyB x c t k || (placesG x c k == t)) := by
  simp [anyB, List.range_succ]
theorem gap_pick (x : List UInt8) (t s : Int) (h1 : 1 ≤ x.length) (h9 : x.length ≤ 999) (h4 : FourG x) (s0 : 0 ≤ s) (s3 : s < 4) :
    (gapG x t s = .error 130 ∧ anyB x (missL x s) t (x.length + 1) = false) ∨
    ∃ q U, q ≤ x.length ∧ gapG x t s = .ok (insW x q (missL x s)) ∧ anyB x (missL x s) t (x.length + 1) = true ∧ sumsG (insW x q (missL x s)) = .ok (t, s, U) := by
  have hc : codeOf (missL x s).toNat ≠ -1 := letterOf_ok _
  rw [gapG, fits_four x h1 h9 h4]
  simp only [if_neg (show ¬ (s < 0 ∨ 3 < s) by omega)]
  cases hf : (List.range (x.length + 1)).find? (hitG x t s) with
  | none =>
    refine .inl ⟨rfl, ?_⟩
    rw [anyB, List.any_eq_false]
    intro j hj
    exact List.find?_eq_none.1 hf j hj
  | some q =>
    obtain ⟨hh, hq, -⟩ := List.find?_range_eq_some.1 hf
    have hq : q < x.length + 1 := by simpa using hq
    have hT : placesG x (missL x s) q = t := by simpa [hitG] using hh
    have hl := insW_length x q (missL x s) (by omega)
    have h4' := four_ins x q (missL x s) (by omega) h4 hc
    refine .inr ⟨q, sW (insW x q (missL x s)) (insW x q (missL x s)).length % (6 * (insW x q (missL x s)).length + 1), by omega, rfl, ?_, ?_⟩
    · rw [anyB, List.any_eq_true]
      exact ⟨q, by simpa using hq, hh⟩
    · rw [four_sums (insW x q (missL x s)) (by omega) (by omega) h4']
      have e1 : sT (insW x q (missL x s)) (insW x q (missL x s)).length % ((insW x q (missL x s)).length : Int) = t := by
        rw [hl, tG_ins x (missL x s) q (by omega), ← hT, placesG]
        norm_cast
      have e2 : sS (insW x q (missL x s)) (insW x q (missL x s)).length % 4 = s := by
        rw [sS_all, csum_ins, missL, letterOf_code]
        omega
      rw [e1, e2]
theorem gap_any1 (x : List UInt8) (t s : Int) (h1 : 1 ≤ x.length) (h9 : x.length ≤ 999) (h4 : FourG x) (s0 : 0 ≤ s) (s3 : s < 4) : ∃ (r : List UInt8) (m : Int),
    ((m = 130 ∧ r = [] ∧ anyB x (missL x s) t (x.length + 1) = false) ∨ (∃ q U, q ≤ x.length ∧ m = 0 ∧ r = insW x q (missL x s) ∧ anyB x (missL x s) t (x.length + 1) = true ∧ sumsG r = .ok (t, s, U))) ∧
    ∀ v w, Tab w → Sl eB w.heap.size w v x → Calls Tryd.prog 18 #[v, .int .i64 t, .int .i64 s] w fun e w' => ∃ v', e = .returned (.tuple #[v', .int .i64 m]) ∧ Sl eB w'.heap.size w' v' r ∧ Below w.heap.size w w' := by
  rcases gap_pick x t s h1 h9 h4 s0 s3 with ⟨hg, ha⟩ | ⟨q, U, hq, hg, ha, hs⟩
  · refine ⟨[], 130, .inl ⟨rfl, rfl, ha⟩, fun v w hT hS => (Gap_no x t s 130 hg (insOk_all _ _ _) (by omega) v w hT hS).mono ?_⟩
    rintro e w' ⟨rfl, hB⟩
    exact ⟨_, rfl, sl_nil _ _, hB⟩
  · exact ⟨insW x q (missL x s), 0, .inr ⟨q, U, hq, rfl, rfl, ha, hs⟩, fun v w hT hS => Gap_yes x t s _ hg (insOk_all _ _ _) (by omega) v w hT hS⟩
set_option maxRecDepth 100000 in
set_option maxHeartbeats 4000000 in
theorem GapOnly_main (v0 : Value) (l : List Int) (zt zs : Int) (w : World) (hS : Sl eI w.heap.size w v0 l) (hT : Tab w) (h1 : 1 ≤ l.length) (h2 : l.length ≤ 200) :
    Calls Tryd.prog 5 #[v0, .int .i64 zt, .int .i64 zs] w fun e w' => e = .returned (.bool true) ∧ Below w.heap.size w w' := by
  have hw := gwakes_any
  have hrw := row_any v0 l (by omega) w hS
  obtain ⟨A0, c0, rfl⟩ := hS.len
  have hxl := textL_length l
  have hx4 : FourG (textL l) := textL_four l
  obtain ⟨p, hp, hat⟩ := at_isH zt l.length h2
  have hmod := letter_mod zs
  have d1 : decide ((l.length : Int) < 1) = false := decide_eq_false (by omega)
  have d2 : decide ((200 : Int) < (l.length : Int)) = false := decide_eq_false (by omega)
  have n0 : ¬ (l.length : Int) + 1 = 0 := by omega
  have s0 : 0 ≤ zs % 4 := by omega
  have s3 : zs % 4 < 4 := by omega
  generalize textL l = x at *
  rw [← hxl] at h1 h2 hat n0
  generalize zs % 4 = S at *
  obtain ⟨r, m, hrm, hgap⟩ := gap_any1 x (p : Int) S h1 (by omega) hx4 s0 s3
  have hmis := fun v w => Missing_yes x S (fits_four _ h1 (by omega) hx4) (by omega) v w
  have hris := fun v w => GRises_yes x (missL x S) _ (rises_four x (missL x S) h1 (by omega) hx4 (letterOf_ok _)) (by omega) v w
  generalize missL x S = c at *
  have Hrm := Lib.hid hrm
  have H1 := Lib.hid (And.intro h1 h2)
  have Hxl := Lib.hid hxl
  have hwx := wrap64_succ x.length (by omega)
  clear hx4 hrm hS hxl hp
  go_enter Tryd.func5, Tryd.ntmps5
  go_wp2_with fail
  go_at_call 21
  refine hrw.mono ?_
  rintro e w1 ⟨vx, rfl, hx, hB⟩
  have hx := hx.sl
  have hT := hT.below hB
  obtain ⟨A, cx, rfl⟩ := hx.len
  clear hrw d1 d2
  go_wp2_with fail
  go_at_call 18
  refine (hgap _ _ hT hx).mono ?_
  rintro e w2 ⟨vr, rfl, hr, hC⟩
  have hx := hx.next hC
  have hT := hT.below hC
  have hB := below_trans hB hC
  obtain ⟨Ar, cr, rfl⟩ := hr.len
  clear hgap hC hat hmod
  go_wp2_with fail
  go_at_call 14
  refine (hmis _ _ hT hx).mono ?_
  rintro e w3 ⟨rfl, hC⟩
  have hx := hx.next hC
  have hr := hr.next hC
  have hT := hT.below hC
  have hB := below_trans hB hC
  clear hmis hC
  go_wp2_with fail
  go_at_call 16
  refine (hris _ _ hT hx).mono ?_
  rintro e w4 ⟨vs, rfl, hs, hC⟩
  have hx := hx.next hC
  have hr := hr.next hC
  have hT := hT.below hC
  have hB := below_trans hB hC
  obtain ⟨b, off, cs, rfl, hb, hcell⟩ := sl_row hs
  clear hris hC hs
  go_wp2_with fail
  go_loopw [15, 16] (fun v i wr => ∃ k : Nat, k ≤ x.length + 1 ∧ i = .int .i64 k ∧ v = .bool (anyB x c p k) ∧ wr = w4) (fun _ i _ => x.length + 1 - (intOf i).toNat)
  case atStart => exact ⟨0, Nat.zero_le _, rfl, rfl, rfl⟩
  case round =>
    obtain ⟨k, hk, rfl, rfl, rfl⟩ := hrel
    by_cases hlt : k < x.length + 1
    · have hki : (k : Int) < (x.length : Int) + 1 := by omega
      have hkc := hcell k (by omega)
      have Hs := Lib.hid (anyB_succ x c p k)
      have Hm := Lib.hid hlt
      clear hlt hcell
      cases hb0 : anyB x c p k with
      | true =>
        rw [hb0] at Hs
        generalize placesG x c k = g at *
        clear hb0
        go_wp2_with fail
        go_roundw
        case rel => exact ⟨k + 1, Hm.out, by go_num, by rw [Hs.out]; rfl, trivial⟩
        case measure => have := Hm.out; simp [intOf]; omega
      | false =>
        rw [hb0] at Hs
        generalize placesG x c k = g at *
        clear hb0
        go_wp2_with fail
        go_roundw
        case rel => exact ⟨k + 1, Hm.out, by go_num, by rw [Hs.out]; rfl, trivial⟩
        case measure => have := Hm.out; simp [intOf]; omega
    · obtain rfl : k = x.length + 1 := by omega
      have hkd : decide (((x.length + 1 : Nat) : Int) < (x.length : Int) + 1) = false := decide_eq_false (by omega)
      clear hcell hlt hk
      rcases Hrm.out with ⟨rfl, rfl, ha⟩ | ⟨q, U, hq, rfl, hr0, ha, hsum⟩
      · rw [ha]
        clear ha Hrm
        go_wp2_with fail
        go_at_call 13
        refine (hw _ hT).mono ?_
        rintro e w10 ⟨rfl, hC⟩
        go_wp2_with fail
        go_ret
        exact ⟨rfl, below_trans hB hC⟩
      · rw [ha]
        have hrl : r.length = x.length + 1 := by rw [hr0]; exact insW_length x q c hq
        have hdel : delW r q = x := by rw [hr0]; exact ins_del_same x q c hq
        have hcm := comes_any (.slice Ar r.length cr) (.slice A x.length cx) r x (by have := H1.out; omega) ⟨q, by omega, hdel⟩
        have hof := fun v w => rOf_any v r (by have := H1.out; omega) w
        rw [hsum] at hof
        have hbr : ((r.length : Int) == (x.length : Int) + 1) = true := by rw [hrl]; simp
        have hcl : (v3 p S U).cells = c3 p S U := rfl
        clear ha Hrm hr0 hsum hrl hdel hq
        go_wp2_with fail
        go_at_call 22
        refine (hof _ _ hr).mono ?_
        rintro e w5 ⟨hC, ⟨a2, b2, c2, h, rfl⟩ | ⟨m, h, rfl⟩⟩
        · cases h
          have hA := below_alloc w5 (.cells (c3 p S U) 36)
          have hrw5 := Rowed.new w5 36 (c3 p S U)
          have k0 := hrw5.cell 0
          have k1 := hrw5.cell 1
          have hC := below_trans hC hA
          have hx := hx.next hC
          have hr := hr.next hC
          have hT := hT.below hC
          have hB := below_trans hB hC
          clear hof hC hA hrw5
          go_wp2_with fail
          go_at_call 23
          refine (hcm _ hr hx).mono ?_
          rintro e w6 ⟨rfl, hC⟩
          have hT := hT.below hC
          have hB := below_trans hB hC
          clear hC hcm hr hx k0 k1
          go_wp2_with fail
          go_at_call 13
          refine (hw _ hT).mono ?_
          rintro e w7 ⟨rfl, hC⟩
          go_wp2_with fail
          go_ret
          exact ⟨rfl, below_trans hB hC⟩
        · cases h
set_option maxRecDepth 100000 in
set_option maxHeartbeats 1000000 in
theorem GapOnly_any (v0 : Value) (l : List Int) (zt zs : Int) (w : World) (hS : Sl eI w.heap.size w v0 l) (hT : Tab w) :
    Calls Tryd.prog 5 #[v0, .int .i64 zt, .int .i64 zs] w fun e w' => e = .returned (.bool true) ∧ Below w.heap.size w w' := by
  by_cases h : 1 ≤ l.length ∧ l.length ≤ 200
  · exact GapOnly_main v0 l zt zs w hS hT h.1 h.2
  · have hw := gwakes_any
    have hd : decide ((l.length : Int) < 1) = true ∨ (decide ((l.length : Int) < 1) = false ∧ decide ((200 : Int) < (l.length : Int)) = true) := by
      by_cases h1 : l.length < 1
      · exact .inl (decide_eq_true (by omega))
      · exact .inr ⟨decide_eq_false (by omega), decide_eq_true (by omega)⟩
    obtain ⟨A0, c0, rfl⟩ := hS.len
    clear h hS
    rcases hd with d1 | ⟨d1, d2⟩
    all_goals
      go_enter Tryd.func5, Tryd.ntmps5
      go_wp2_with fail
      go_at_call 13
      refine (hw _ hT).mono ?_
      rintro e w' ⟨rfl, hB⟩
      go_wp2_with fail
      go_ret
      exact ⟨rfl, hB⟩
end Go.Proofs.YtmdpodgodhkjdaaDoor
