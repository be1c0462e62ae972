/- TurnParts. -/
import Derived.Test.YtniiblamoimcjaaDoorTuL
import Derived.Test.YtniiblamoimcjaaDoorAG
namespace Go.Proofs.YtniiblamoimcjaaDoor
open Go.RowKit Go.Shelf
attribute [local go_sem] Oper.semAt_some run_store_func

theorem row_made (w : World) : (w.alloc (.cells #[] 5)).ownsRow w.heap.size 5 1 (.slice (some ⟨w.heap.size, 0, none⟩) 0 0) 0 [] :=
  World.ownsRow_made w #[] 0 (Nat.le_refl _) (by unfold maxLen; omega) rfl
theorem last_let {s : List UInt8} {a : UInt8} (ha : IsLet a) (hs : ∀ c ∈ s, IsLet c) : IsLet (s.getLastD a) := by
  rcases List.eq_nil_or_concat s with rfl | ⟨s', z, rfl⟩
  · exact ha
  · have : (s'.concat z).getLastD a = z := by simp
    rw [this]
    exact hs z (by simp)

set_option maxRecDepth 100000 in
set_option maxHeartbeats 4000000 in
theorem TurnParts_any (n : Int) (sv sm : Value) (l m : List Int) (w : World) (hS : Sl eI w.heap.size w sv l) (hM : Sl eI w.heap.size w sm m) (hT : Tab w) :
    Calls Tryd.prog 6 #[.int .i64 n, sv, sm] w fun e w' => e = .returned (.bool true) ∧ Below w.heap.size w w' := by
  have hw := wakes_any
  have hle := lett_any n
  have hal := let_letter n
  obtain ⟨i0, hi, hz0, hz1, hz2⟩ := info_parts info_u8
  have hsl : (tritsOf l).length = l.length := by simp [tritsOf]
  have hsm : (tritsOf m).length = m.length := by simp [tritsOf]
  have htrl : ∀ t ∈ tritsOf l, IsTri t := by
    intro t ht
    obtain ⟨x, _, rfl⟩ := List.mem_map.1 ht
    exact tri_trit x
  have htrm : ∀ t ∈ tritsOf m, IsTri t := by
    intro t ht
    obtain ⟨x, _, rfl⟩ := List.mem_map.1 ht
    exact tri_trit x
  have htv := trits_any sv l
  have htw := trits_any sm m
  obtain ⟨A, c, hsv⟩ := hS.len
  subst hsv
  obtain ⟨B, c', hsm'⟩ := hM.len
  subst hsm'
  generalize tritsOf l = x at *
  generalize tritsOf m = y at *
  generalize letterOf n = a at *
  by_cases h3 : 200 < l.length
  · have d1 : decide ((200 : Int) < (l.length : Int)) = true := decide_eq_true (by omega)
    go_enter Tryd.func6, Tryd.ntmps6
    go_wp2_with (go_at_call 8; refine (hw _ hT).mono ?_; rintro e w' ⟨rfl, hB⟩)
    go_ret
    exact ⟨rfl, hB⟩
  have d1 : decide ((200 : Int) < (l.length : Int)) = false := decide_eq_false (by omega)
  by_cases h4 : 200 < m.length
  · have d2 : decide ((200 : Int) < (m.length : Int)) = true := decide_eq_true (by omega)
    go_enter Tryd.func6, Tryd.ntmps6
    go_wp2_with (go_at_call 8; refine (hw _ hT).mono ?_; rintro e w' ⟨rfl, hB⟩)
    go_ret
    exact ⟨rfl, hB⟩
  have d2 : decide ((200 : Int) < (m.length : Int)) = false := decide_eq_false (by omega)
  obtain ⟨s, e1, e2, e3, e4, e5⟩ := walk_turn x a hal htrl
  obtain ⟨u, f1, f2, f3, f4, f5⟩ := walk_turn y (s.getLastD a) (last_let hal e3) htrm
  have hp := walk_parts x a y s u e1 f1
  have hlz := last_let hal e3
  have hxl : x.length ≤ 200 := by omega
  have hyl : y.length ≤ 200 := by omega
  have hs2 : s.length ≤ 200 := by omega
  have hu2 : u.length ≤ 200 := by omega
  have hT1 := fun v w => Turn_yes a v x s (by show gatG a (wB a x) = _; rw [e1]; exact gat_ok hal s) (by omega) w
  have hT2 := fun v w => Turn_yes (s.getLastD a) v y u (by show gatG _ (wB _ y) = _; rw [f1]; exact gat_ok hlz u) (by omega) w
  have hT3 := fun v w => Turn_yes a v (x ++ y) (s ++ u) (by show gatG a (wB a (x ++ y)) = _; rw [hp]; exact gat_ok hal _) (by simp; omega) w
  obtain ⟨r, hr⟩ : ∃ r, s ++ u = r := ⟨_, rfl⟩
  rw [hr] at hT3
  have Hr := Lib.hid hr
  clear hr
  have hl3 : l.length ≤ 17592186044416 := by omega
  have hm3 : m.length ≤ 17592186044416 := by omega
  have Hsl := Lib.hid hsl
  have Hsm := Lib.hid hsm
  have Hs := Lib.hid e2
  have hlast : s.length ≠ 0 → ∃ h : s.length - 1 < s.length, s[s.length - 1] = s.getLastD a := by
    intro h0
    refine ⟨by omega, ?_⟩
    rcases List.eq_nil_or_concat s with rfl | ⟨s', z, rfl⟩
    · simp at h0
    · simp
  have hz : s.length = 0 → s.getLastD a = a := by
    intro h0
    rw [List.length_eq_zero_iff] at h0
    subst h0
    rfl
  clear e1 e2 e3 e4 e5 f1 f2 f3 f4 f5 hp htrl htrm hsl hsm hal hlz
  generalize s.getLastD a = z at *
  go_enter Tryd.func6, Tryd.ntmps6
  go_wp2_with fail
  go_at_call 18
  refine (hle _).mono ?_
  rintro e w' ⟨rfl, rfl⟩
  go_wp2_with fail
  go_at_call 19
  refine (htv hl3 _ hS).mono ?_
  rintro e w1 ⟨v1, rfl, ho1, hB1⟩
  rw [← Hsl.out] at ho1
  have hx := sl_own ho1
  have hM1 := hM.next hB1
  have hTb := hT.below hB1
  obtain ⟨A1, c1, rfl⟩ := hx.len
  clear htv ho1 hS hT hle hM
  go_wp2_with fail
  go_at_call 19
  refine (htw hm3 _ hM1).mono ?_
  rintro e w2 ⟨v2, rfl, ho2, hB2⟩
  rw [← Hsm.out] at ho2
  have hy := sl_own ho2
  have hx := hx.next hB2
  have hTb := hTb.below hB2
  have hB2 := below_trans hB1 hB2
  obtain ⟨A2, c2, rfl⟩ := hy.len
  clear htw ho2 hM1 hB1
  go_wp2_with fail
  go_at_call 13
  refine (hT1 _ _ hTb hx).mono ?_
  rintro e w3 ⟨v3, rfl, ho3, hB3⟩
  have hs3 := sl_own ho3
  have hx := hx.next hB3
  have hy := hy.next hB3
  have hTb := hTb.below hB3
  have hB3 := below_trans hB2 hB3
  obtain ⟨A3, c3, hv3⟩ := hs3.len
  subst hv3
  clear hT1 ho3 hB2
  have hlen : ((s.length : Int) != (x.length : Int)) = false := by rw [Hs.out]; simp
  by_cases h0 : s.length = 0
  · have hza := hz h0
    subst hza
    have d0 : decide (0 < s.length) = false := decide_eq_false (by omega)
    have H0 := Lib.hid h0
    clear h0 hz hlast
    go_wp2_with fail
    go_at_call 13
    refine (hT2 _ _ hTb hy).mono ?_
    rintro e w4 ⟨v4, rfl, ho4, hB4⟩
    have hu4 := sl_own ho4
    have hs4 := hs3.next hB4
    have hx := hx.next hB4
    have hy := hy.next hB4
    have hTb := hTb.below hB4
    have hB4 := below_trans hB3 hB4
    obtain ⟨A4, c4, hv4⟩ := hu4.len
    subst hv4
    clear hT2 ho4 hB3 hs3 d0
    have hrow := row_made w4
    have hA1 : Below w4.heap.size w4 (w4.alloc (.cells #[] 5)) := below_alloc w4 _
    go_wp2_with (first
      | (at_builtin
         refine wpList_append_sl _ rfl (.tmp 65) (.tmp 66) _ rfl w4.heap.size 5 i0 (.int .u8 0) 1 Tryd.underlying22 hi hz0 hz1 hz2 rfl _ 0 [] hrow rfl w4.heap.size _ x (hx.below hA1) rfl (fun _ => rfl) (by unfold maxLen; omega) (by omega) (by simp) ?_
         intro v1 w5 hown1 hg1 hat1
         have hA2 : Below w4.heap.size w4 w5 := hA1.trans (below_grown hrow hg1 (by simp) (Nat.le_refl _)))
      | (at_builtin
         refine wpList_append_sl _ rfl (.tmp 67) (.tmp 68) _ rfl w4.heap.size 5 i0 (.int .u8 0) 1 Tryd.underlying22 hi hz0 hz1 hz2 rfl _ _ _ hown1 rfl w4.heap.size _ y (hy.below hA2) rfl (fun _ => rfl) (by unfold maxLen; omega) (by omega) hA2.size ?_
         intro v2 w6 hown2 hg2 hat2))
    have hA3 := hA2.trans (below_grown hown1 hg2 hA2.size (Nat.le_refl _))
    have hxy : Sl eB w6.heap.size w6 v2 (x ++ y) := Sl.of_own (n := x.length + y.length) (by simpa using hown2)
    have hu6 := hu4.next hA3
    have hs6 := hs4.next hA3
    have hTb := hTb.below hA3
    have hB6 := below_trans hB4 hA3
    clear hown1 hown2 hg1 hg2 hat1 hat2 hA1 hA2 hA3 hrow hx hy hu4 hs4 hB4
    go_at_call 13
    refine (hT3 _ _ hTb hxy).mono ?_
    rintro e w7 ⟨v7, rfl, ho7, hB7⟩
    have hsu := sl_own ho7
    have hs7 := hs6.next hB7
    have hu7 := hu6.next hB7
    have hTb := hTb.below hB7
    have hB7 := below_trans hB6 hB7
    obtain ⟨A7, c7, rfl⟩ := hsu.len
    clear hT3 ho7 hB6 hxy hs6 hu6
    have hrow := row_made w7
    have hA1 : Below w7.heap.size w7 (w7.alloc (.cells #[] 5)) := below_alloc w7 _
    go_wp2_with (first
      | (at_builtin
         refine wpList_append_slg _ rfl (.tmp 80) (.tmp 81) _ rfl w7.heap.size 5 i0 (.int .u8 0) 1 Tryd.underlying22 hi hz0 hz1 hz2 rfl _ 0 [] hrow rfl w7.heap.size _ s (hs7.below hA1) rfl (fun _ => rfl) (by unfold maxLen; omega) (by omega) (by simp) ?_
         intro v1' w8 hown1 hg1 hat1
         have hA2 : Below w7.heap.size w7 w8 := hA1.trans (below_grown hrow hg1 (by simp) (Nat.le_refl _)))
      | (at_builtin
         refine wpList_append_slg _ rfl (.tmp 82) (.tmp 83) _ rfl w7.heap.size 5 i0 (.int .u8 0) 1 Tryd.underlying22 hi hz0 hz1 hz2 rfl _ _ _ hown1 rfl w7.heap.size _ u (hu7.below hA2) rfl (fun _ => rfl) (by unfold maxLen; omega) (by omega) hA2.size ?_
         intro v2' w9 hown2 hg2 hat2))
    have hA3 := hA2.trans (below_grown hown1 hg2 hA2.size (Nat.le_refl _))
    have hcat : Sl eB w9.heap.size w9 v2' r := by rw [← Hr.out]; exact Sl.of_own (n := s.length + u.length) (by simpa using hown2)
    have hsu := hsu.next hA3
    have hTb := hTb.below hA3
    have hB9 := below_trans hB7 hA3
    clear hown1 hown2 hg1 hg2 hat1 hat2 hA1 hA2 hA3 hrow hs7 hu7 hB7
    go_at_call 17
    refine (same_eq _ _ _ _ _ hcat hsu).mono ?_
    rintro e w' ⟨rfl, rfl⟩
    go_wp2_with (go_at_call 8; refine (hw _ hTb).mono ?_; rintro e w' ⟨rfl, hB5⟩)
    go_ret
    exact ⟨rfl, below_trans hB9 hB5⟩
  · obtain ⟨hl1, hl2⟩ := hlast h0
    have hs3' := hs3
    obtain ⟨A', c', he, _, hcs⟩ := hs3'
    injection he with he1 he2 he3
    subst he1 he3
    obtain ⟨b, off, rfl, hb, hcell⟩ := hcs (by omega)
    have hcx : w3.cell? ⟨b, off + (s.length - 1), none⟩ = some (eB z) := by rw [← hl2]; exact hcell (s.length - 1) _ (by simp [hl1])
    have d0 : decide (0 < s.length) = true := decide_eq_true (by omega)
    clear hl2 hcs hcell hz hlast
    go_wp2_with fail
    go_at_call 13
    refine (hT2 _ _ hTb hy).mono ?_
    rintro e w4 ⟨v4, rfl, ho4, hB4⟩
    have hu4 := sl_own ho4
    have hs4 := hs3.next hB4
    have hx := hx.next hB4
    have hy := hy.next hB4
    have hTb := hTb.below hB4
    have hB4 := below_trans hB3 hB4
    obtain ⟨A4, c4, hv4⟩ := hu4.len
    subst hv4
    clear hT2 ho4 hB3 hs3 d0
    have hrow := row_made w4
    have hA1 : Below w4.heap.size w4 (w4.alloc (.cells #[] 5)) := below_alloc w4 _
    go_wp2_with (first
      | (at_builtin
         refine wpList_append_sl _ rfl (.tmp 65) (.tmp 66) _ rfl w4.heap.size 5 i0 (.int .u8 0) 1 Tryd.underlying22 hi hz0 hz1 hz2 rfl _ 0 [] hrow rfl w4.heap.size _ x (hx.below hA1) rfl (fun _ => rfl) (by unfold maxLen; omega) (by omega) (by simp) ?_
         intro v1 w5 hown1 hg1 hat1
         have hA2 : Below w4.heap.size w4 w5 := hA1.trans (below_grown hrow hg1 (by simp) (Nat.le_refl _)))
      | (at_builtin
         refine wpList_append_sl _ rfl (.tmp 67) (.tmp 68) _ rfl w4.heap.size 5 i0 (.int .u8 0) 1 Tryd.underlying22 hi hz0 hz1 hz2 rfl _ _ _ hown1 rfl w4.heap.size _ y (hy.below hA2) rfl (fun _ => rfl) (by unfold maxLen; omega) (by omega) hA2.size ?_
         intro v2 w6 hown2 hg2 hat2))
    have hA3 := hA2.trans (below_grown hown1 hg2 hA2.size (Nat.le_refl _))
    have hxy : Sl eB w6.heap.size w6 v2 (x ++ y) := Sl.of_own (n := x.length + y.length) (by simpa using hown2)
    have hu6 := hu4.next hA3
    have hs6 := hs4.next hA3
    have hTb := hTb.below hA3
    have hB6 := below_trans hB4 hA3
    clear hown1 hown2 hg1 hg2 hat1 hat2 hA1 hA2 hA3 hrow hx hy hu4 hs4 hB4
    go_at_call 13
    refine (hT3 _ _ hTb hxy).mono ?_
    rintro e w7 ⟨v7, rfl, ho7, hB7⟩
    have hsu := sl_own ho7
    have hs7 := hs6.next hB7
    have hu7 := hu6.next hB7
    have hTb := hTb.below hB7
    have hB7 := below_trans hB6 hB7
    obtain ⟨A7, c7, rfl⟩ := hsu.len
    clear hT3 ho7 hB6 hxy hs6 hu6
    have hrow := row_made w7
    have hA1 : Below w7.heap.size w7 (w7.alloc (.cells #[] 5)) := below_alloc w7 _
    go_wp2_with (first
      | (at_builtin
         refine wpList_append_slg _ rfl (.tmp 80) (.tmp 81) _ rfl w7.heap.size 5 i0 (.int .u8 0) 1 Tryd.underlying22 hi hz0 hz1 hz2 rfl _ 0 [] hrow rfl w7.heap.size _ s (hs7.below hA1) rfl (fun _ => rfl) (by unfold maxLen; omega) (by omega) (by simp) ?_
         intro v1' w8 hown1 hg1 hat1
         have hA2 : Below w7.heap.size w7 w8 := hA1.trans (below_grown hrow hg1 (by simp) (Nat.le_refl _)))
      | (at_builtin
         refine wpList_append_slg _ rfl (.tmp 82) (.tmp 83) _ rfl w7.heap.size 5 i0 (.int .u8 0) 1 Tryd.underlying22 hi hz0 hz1 hz2 rfl _ _ _ hown1 rfl w7.heap.size _ u (hu7.below hA2) rfl (fun _ => rfl) (by unfold maxLen; omega) (by omega) hA2.size ?_
         intro v2' w9 hown2 hg2 hat2))
    have hA3 := hA2.trans (below_grown hown1 hg2 hA2.size (Nat.le_refl _))
    have hcat : Sl eB w9.heap.size w9 v2' r := by rw [← Hr.out]; exact Sl.of_own (n := s.length + u.length) (by simpa using hown2)
    have hsu := hsu.next hA3
    have hTb := hTb.below hA3
    have hB9 := below_trans hB7 hA3
    clear hown1 hown2 hg1 hg2 hat1 hat2 hA1 hA2 hA3 hrow hs7 hu7 hB7
    go_at_call 17
    refine (same_eq _ _ _ _ _ hcat hsu).mono ?_
    rintro e w' ⟨rfl, rfl⟩
    go_wp2_with (go_at_call 8; refine (hw _ hTb).mono ?_; rintro e w' ⟨rfl, hB5⟩)
    go_ret
    exact ⟨rfl, below_trans hB9 hB5⟩
end Go.Proofs.YtniiblamoimcjaaDoor
