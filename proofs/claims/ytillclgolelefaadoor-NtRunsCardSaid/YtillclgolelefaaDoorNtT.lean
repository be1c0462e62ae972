/- The walk of NtTurned. -/
import Derived.Test.YtillclgolelefaaDoorNtM
namespace Go.Proofs.YtillclgolelefaaDoor
open Go.RowKit Go.Shelf
attribute [local go_sem] Oper.semAt_some

theorem Rc_row (sv : Value) (l : List Int) (hlen : l.length ≤ 17592186044416) (w : World) (hS : Sl eB w.heap.size w sv (rowOf l)) (hT : Tab w) :
    Calls Tryd.prog 9 #[sv] w fun e W' => ∃ v, Below w.heap.size w W' ∧ e = .returned (.tuple #[v, .int .i64 0]) ∧ Sl eB W'.heap.size W' v (rowOf (turn l)) := by
  refine (Rc_any sv (rowOf l) (by rw [rowOf_length]; exact hlen) w hS hT).mono ?_
  rintro e w1 ⟨v1, hB1, hor⟩
  obtain ⟨rfl, -, hv1⟩ := hor.resolve_right (fun h => codes_fine l h.2)
  exact ⟨v1, hB1, rfl, by rw [← rcOf_rowOf]; exact hv1⟩
theorem least_row (l : List Int) : leastOf (rowOf l) = if Lib.compareBytes (rowOf (turn l)) (rowOf l) < 0 then (rowOf (turn l), true) else (rowOf l, false) := by
  rw [leastOf, if_neg (codes_fine l), rcOf_rowOf]
theorem least_fine (l : List Int) : (leastOf (rowOf l)).1 = (leastOf (rowOf (turn l))).1 ∧
    (Op.bytesLess (leastOf (rowOf l)).1 (rowOf l) || (leastOf (rowOf l)).1 == rowOf l) = true ∧ (Op.bytesLess (leastOf (rowOf l)).1 (rowOf (turn l)) || (leastOf (rowOf l)).1 == rowOf (turn l)) = true ∧
    (leastOf (rowOf (turn l))).2 = Op.bytesLess (rowOf l) (rowOf (turn l)) := by
  have h1 := least_row l
  have h2 := least_row (turn l)
  rw [turn_turn] at h2
  generalize rowOf l = a at *
  generalize rowOf (turn l) = b at *
  by_cases hba : Lib.compareBytes b a < 0
  · have hab := compare_swap _ _ hba
    rw [if_pos hba] at h1
    rw [if_neg hab] at h2
    rw [h1, h2]
    have e1 := (less_iff b a).2 hba
    have e2 : Op.bytesLess a b = false := by
      cases h : Op.bytesLess a b
      · rfl
      · exact absurd ((less_iff a b).1 h) hab
    simp [e1, e2]
  · rw [if_neg hba] at h1
    by_cases hab : Lib.compareBytes a b < 0
    · rw [if_pos hab] at h2
      rw [h1, h2]
      simp [(less_iff a b).2 hab]
    · rw [if_neg hab] at h2
      have e := compare_total a b hab hba
      subst e
      rw [h1]
      have e2 : Op.bytesLess a a = false := by
        cases h : Op.bytesLess a a
        · rfl
        · exact absurd ((less_iff a a).1 h) hab
      simp [e2]

set_option maxRecDepth 100000 in
set_option maxHeartbeats 4000000 in
theorem NtTurned_any (sl sm : Value) (l m : List Int) (w : World) (hl : Sl eI w.heap.size w sl l) (hm : Sl eI w.heap.size w sm m) (hT : Tab w) :
    Calls Tryd.prog 3 #[sl, sm] w fun e w' => e = .returned (.bool true) ∧ Below w.heap.size w w' := by
  obtain ⟨Al, cl, rfl⟩ := hl.len
  obtain ⟨Am, cm, rfl⟩ := hm.len
  by_cases h1 : 200 < l.length
  · have hd : decide ((200 : Int) < l.length) = true := by simp; omega
    go_enter Tryd.func3, Tryd.ntmps3
    go_wp2_with (go_at_call 7; refine (wakes_any _ hT).mono ?_; rintro e w1 ⟨rfl, hB1⟩)
    go_ret
    exact ⟨rfl, hB1⟩
  have hd1 : decide ((200 : Int) < l.length) = false := by simp; omega
  by_cases h2 : 200 < m.length
  · have hd : decide ((200 : Int) < m.length) = true := by simp; omega
    go_enter Tryd.func3, Tryd.ntmps3
    go_wp2_with (go_at_call 7; refine (wakes_any _ hT).mono ?_; rintro e w1 ⟨rfl, hB1⟩)
    go_ret
    exact ⟨rfl, hB1⟩
  have hd2 : decide ((200 : Int) < m.length) = false := by simp; omega
  go_enter Tryd.func3, Tryd.ntmps3
  go_wp2_with fail
  go_at_call 8
  refine (row_any _ l (by omega) _ hl).mono ?_
  rintro e w1 ⟨va, rfl, hva, hB1⟩
  go_wp2_with fail
  go_at_call 8
  refine (row_any _ m (by omega) _ (hm.next hB1)).mono ?_
  rintro e w2 ⟨vb, rfl, hvb, hB2⟩
  have ha2 := hva.next hB2
  have hBw2 := below_trans hB1 hB2
  have hT2 := hT.below hBw2
  clear hva hB1 hB2 hl hm hT
  go_wp2_with fail
  go_at_call 9
  refine (Rc_row _ l (by omega) _ ha2 hT2).mono ?_
  rintro e w3 ⟨vs, hB3, rfl, hvs⟩
  have ha3 := ha2.next hB3
  have hb3 := hvb.next hB3
  have hBw3 := below_trans hBw2 hB3
  have hT3 := hT2.below hB3
  clear hB3 ha2 hvb hBw2 hT2
  go_wp2_with fail
  go_at_call 9
  refine (Rc_row _ m (by omega) _ hb3 hT3).mono ?_
  rintro e w4 ⟨vt, hB4, rfl, hvt⟩
  have ha4 := ha3.next hB4
  have hb4 := hb3.next hB4
  have hs4 := hvs.next hB4
  have hBw4 := below_trans hBw3 hB4
  have hT4 := hT3.below hB4
  clear hB4 ha3 hb3 hvs hBw3 hT3
  go_wp2_with fail
  go_at_call 10
  refine (both_any _ _ (rowOf l) (rowOf m) (by rw [rowOf_length, rowOf_length]; omega) _ ha4 hb4).mono ?_
  rintro e w5 ⟨vab, rfl, hab5, hB5⟩
  rw [← rowOf_append] at hab5
  have ha5 := ha4.next hB5
  have hs5 := hs4.next hB5
  have ht5 := hvt.next hB5
  have hBw5 := below_trans hBw4 hB5
  have hT5 := hT4.below hB5
  clear hB5 ha4 hb4 hs4 hvt hBw4 hT4
  go_wp2_with fail
  go_at_call 9
  refine (Rc_row _ (l ++ m) (by rw [List.length_append]; omega) _ hab5 hT5).mono ?_
  rintro e w6 ⟨vu, hB6, rfl, hvu⟩
  rw [turn_append, rowOf_append] at hvu
  have ha6 := ha5.next hB6
  have hs6 := hs5.next hB6
  have ht6 := ht5.next hB6
  have hBw6 := below_trans hBw5 hB6
  have hT6 := hT5.below hB6
  clear hB6 ha5 hs5 ht5 hBw5 hT5 hab5
  go_wp2_with fail
  go_at_call 9
  refine (Rc_row _ (turn l) (by rw [turn_length]; omega) _ hs6 hT6).mono ?_
  rintro e w7 ⟨vk, hB7, rfl, hvk⟩
  rw [turn_turn] at hvk
  have ha7 := ha6.next hB7
  have hs7 := hs6.next hB7
  have ht7 := ht6.next hB7
  have hu7 := hvu.next hB7
  have hBw7 := below_trans hBw6 hB7
  have hT7 := hT6.below hB7
  clear hB7 ha6 hs6 ht6 hvu hBw6 hT6
  go_wp2_with fail
  go_at_call 11
  refine (Least_any _ (rowOf l) (by rw [rowOf_length]; omega) _ ha7 hT7).mono ?_
  rintro e w8 ⟨vx, hB8, rfl, hvx⟩
  have ha8 := ha7.next hB8
  have hs8 := hs7.next hB8
  have ht8 := ht7.next hB8
  have hu8 := hu7.next hB8
  have hk8 := hvk.next hB8
  have hBw8 := below_trans hBw7 hB8
  have hT8 := hT7.below hB8
  clear hB8 ha7 hs7 ht7 hu7 hvk hBw7 hT7
  generalize (leastOf (rowOf l)).2 = junk
  go_wp2_with fail
  go_at_call 11
  refine (Least_any _ (rowOf (turn l)) (by rw [rowOf_length, turn_length]; omega) _ hs8 hT8).mono ?_
  rintro e w9 ⟨vy, hB9, rfl, hvy⟩
  have hf := least_fine l
  rw [← hf.1] at hvy
  have ha9 := ha8.next hB9
  have hs9 := hs8.next hB9
  have ht9 := ht8.next hB9
  have hu9 := hu8.next hB9
  have hk9 := hk8.next hB9
  have hx9 := hvx.next hB9
  have hBw9 := below_trans hBw8 hB9
  have hT9 := hT8.below hB9
  clear hB9 ha8 hs8 ht8 hu8 hk8 hvx hBw8 hT8
  rw [hf.2.2.2]
  have hf1 := hf.2.1
  have hf2 := hf.2.2.1
  clear hf
  generalize (leastOf (rowOf l)).1 = X at *
  go_wp2_with fail
  go_at_call 12
  refine (same_is _ _ (rowOf l) (rowOf l) true (by simp) _ _ hk9 ha9).mono ?_
  rintro e w' ⟨rfl, rfl⟩
  go_wp2_with fail
  go_at_call 10
  refine (both_any _ _ (rowOf (turn m)) (rowOf (turn l)) (by rw [rowOf_length, rowOf_length, turn_length, turn_length]; omega) _ ht9 hs9).mono ?_
  rintro e w10 ⟨vts, rfl, hts, hB10⟩
  have ha := ha9.next hB10
  have hs := hs9.next hB10
  have hu := hu9.next hB10
  have hx := hx9.next hB10
  have hy := hvy.next hB10
  have hBw := below_trans hBw9 hB10
  have hT := hT9.below hB10
  clear hB10 ha9 hs9 ht9 hu9 hk9 hx9 hBw9 hT9 hvy
  go_wp2_with fail
  go_at_call 12
  refine (same_is _ _ _ _ true (by simp) _ _ hu hts).mono ?_
  rintro e w' ⟨rfl, rfl⟩
  go_wp2_with fail
  go_at_call 13
  refine (Run_is _ (rowOf (turn l)) (by rw [rowOf_length, turn_length]; omega) (runOf (rowOf l)) (by rw [← runOf_turn]; rfl) _ _ hs).mono ?_
  rintro e w' ⟨rfl, rfl⟩
  go_wp2_with fail
  go_at_call 13
  refine (Run_is _ (rowOf l) (by rw [rowOf_length]; omega) (runOf (rowOf l)) rfl _ _ ha).mono ?_
  rintro e w' ⟨rfl, rfl⟩
  generalize (runOf (rowOf l) : Int) = rr
  go_wp2_with fail
  go_at_call 14
  refine (Gc_is _ (rowOf (turn l)) (by rw [rowOf_length, turn_length]; omega) (gcOf (rowOf l)) (by rw [gcOf_turn]) _ _ hs).mono ?_
  rintro e w' ⟨rfl, rfl⟩
  go_wp2_with fail
  go_at_call 14
  refine (Gc_is _ (rowOf l) (by rw [rowOf_length]; omega) (gcOf (rowOf l)) rfl _ _ ha).mono ?_
  rintro e w' ⟨rfl, rfl⟩
  generalize (gcOf (rowOf l) : Int) = gg
  go_wp2_with fail
  go_at_call 12
  refine (same_is _ _ X X true (by simp) _ _ hx hy).mono ?_
  rintro e w' ⟨rfl, rfl⟩
  have ra := run_str (P := Tryd.prog) ha 24 9 5 Tryd.underlying24 Tryd.underlying5 Tryd.underlying9
  have rs := run_str (P := Tryd.prog) hs 24 9 5 Tryd.underlying24 Tryd.underlying5 Tryd.underlying9
  have rx := run_str (P := Tryd.prog) hx 24 9 5 Tryd.underlying24 Tryd.underlying5 Tryd.underlying9
  generalize rowOf l = a at *
  generalize rowOf (turn l) = b at *
  go_wp2_with fail
  go_at_call 7
  refine (wakes_any _ hT).mono ?_
  rintro e w11 ⟨rfl, hB11⟩
  go_wp2_with fail
  go_ret
  exact ⟨rfl, below_trans hBw hB11⟩
end Go.Proofs.YtillclgolelefaaDoor
