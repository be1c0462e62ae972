/- PolyDivides. -/
import Derived.Test.YtgidhkfmelpjfaaPoX0
namespace Go.Proofs.Ytgidhkfmelpjfaa
open Go.RowKit Go.Shelf
attribute [local go_sem] Oper.semAt_some

theorem div_prod (p q : List UInt8) (hm : 0 < tl (C q) q.length) : DivOk (tr (PM p (C q)) (p.length + q.length)) q (tr (C p) p.length) [] := by
  refine ⟨?_, by rw [tr_length]; exact hm, tr_trd _ _, .inl rfl⟩
  rw [C_tr _ _ (fun k hk => PM_big' p q k hk)]
  funext x
  rw [C_nil, x_zero, PM_congr (C_tr (C p) p.length (fun k hk => C_big p k hk))]
theorem div_back {p q Q R : List UInt8} (h : DivOk p q Q R) (N : Nat) (hN : ∀ k, N ≤ k → C (tr (PM Q (C q)) (Q.length + q.length)) k ^^^ C R k = 0) : tr (fun k => C (tr (PM Q (C q)) (Q.length + q.length)) k ^^^ C R k) N = tr (C p) p.length := by
  refine tr_ext _ _ ?_ hN (fun k hk => C_big p k hk)
  funext x
  rw [C_tr _ _ (fun k hk => PM_big' Q q k hk), h.1]

set_option maxRecDepth 100000 in
set_option maxHeartbeats 4000000 in
theorem PolyDivides_any (v0 v1 : Value) (p q : List UInt8) (w : World) (hP : Sl eB w.heap.size w v0 p) (hQ : Sl eB w.heap.size w v1 q) :
    Calls Try.prog 5 #[v0, v1] w fun e w' => e = .returned (.bool true) ∧ Below w.heap.size w w' := by
  obtain ⟨A0, c0, rfl⟩ := hP.len
  obtain ⟨A1, c1, rfl⟩ := hQ.len
  have hA0 := below_alloc w (.cells #[.slice A0 p.length c0, .slice A1 q.length c1] 22)
  have hr0 := Rowed.new w 22 #[.slice A0 p.length c0, .slice A1 q.length c1]
  have g0 := hr0.cell 0
  have g1 := hr0.cell 1
  have g0' : (w.alloc (.cells #[.slice A0 p.length c0, .slice A1 q.length c1] 22)).cell? ⟨w.heap.size, 0, none⟩ = some (.slice A0 p.length c0) := g0
  have g1' : (w.alloc (.cells #[.slice A0 p.length c0, .slice A1 q.length c1] 22)).cell? ⟨w.heap.size, 1, none⟩ = some (.slice A1 q.length c1) := g1
  clear g0 g1 hr0
  by_cases hbig : 120 < p.length ∨ 120 < q.length
  · have hg := great2_yes A0 A1 p.length c0 q.length c1 _ _ g0' g1' hbig
    clear g0' g1' hbig
    go_enter Try.func5, Try.ntmps5
    go_wp2_with fail
    generalize w.alloc (.cells #[.slice A0 p.length c0, .slice A1 q.length c1] 22) = w1 at *
    go_at_call 8
    refine hg.mono ?_
    rintro e w' ⟨rfl, rfl⟩
    clear hg
    go_wp2_with fail
    go_at_call 9
    refine (wakes_any _).mono ?_
    rintro e w2 ⟨rfl, hB⟩
    go_wp2
    go_ret
    exact ⟨rfl, below_trans hA0 hB⟩
  · have hg := great2_no A0 A1 p.length c0 q.length c1 _ _ g0' g1' (by omega) (by omega)
    have hp : p.length ≤ 120 := by omega
    have hq : q.length ≤ 120 := by omega
    clear g0' g1' hbig
    have hP1 := hP.next hA0
    have hQ1 := hQ.next hA0
    by_cases hm : tl (C q) q.length = 0
    · have hz : tr (C q) q.length = [] := List.eq_nil_of_length_eq_zero (by rw [tr_length]; exact hm)
      have hT := fun w hS => Trim_any (.slice A1 q.length c1) q (by omega) w hS
      rw [hz] at hT
      go_enter Try.func5, Try.ntmps5
      go_wp2_with fail
      generalize w.alloc (.cells #[.slice A0 p.length c0, .slice A1 q.length c1] 22) = w1 at *
      go_at_call 8
      refine hg.mono ?_
      rintro e w' ⟨rfl, rfl⟩
      clear hg
      go_wp2_with fail
      go_at_call 10
      refine (Divide_no _ _ p q (by omega) (by omega) hz _ hP1 hQ1).mono ?_
      rintro e w2 ⟨rfl, hB2⟩
      go_wp2_with fail
      go_at_call 13
      refine (hT w2 (hQ1.next hB2)).mono ?_
      rintro e w3 ⟨v3, rfl, hv3, hB3⟩
      obtain ⟨A3, c3, rfl⟩ := hv3.sl.len
      go_wp2_with fail
      go_at_call 9
      refine (wakes_any _).mono ?_
      rintro e w4 ⟨rfl, hB4⟩
      go_wp2
      go_ret
      exact ⟨rfl, below_trans (below_trans (below_trans hA0 hB2) hB3) hB4⟩
    · have hm' : 0 < tl (C q) q.length := by omega
      have hT := fun w hS => Trim_any (.slice A1 q.length c1) q (by omega) w hS
      have hTp := fun w hS => Trim_any (.slice A0 p.length c0) p (by omega) w hS
      have hprod := div_prod p q hm'
      have lpq : (tr (PM p (C q)) (p.length + q.length)).length ≤ 240 := by
        rw [tr_length]
        have := tl_le (PM p (C q)) (p.length + q.length)
        omega
      have ltq : 0 < (tr (C q) q.length).length := by rw [tr_length]; exact hm'
      have ltq2 : (tr (C q) q.length).length ≤ 120 := by rw [tr_length]; have := tl_le (C q) q.length; omega
      go_enter Try.func5, Try.ntmps5
      go_wp2_with fail
      generalize w.alloc (.cells #[.slice A0 p.length c0, .slice A1 q.length c1] 22) = w1 at *
      go_at_call 8
      refine hg.mono ?_
      rintro e w' ⟨rfl, rfl⟩
      clear hg
      go_wp2_with fail
      go_at_call 10
      refine (Divide_yes _ _ p q (by omega) (by omega) hm' _ hP1 hQ1).mono ?_
      rintro e w2 ⟨vq, vr, Q, R, hd, hQl, rfl, hvq, hvr, hB2⟩
      have hRl := hd.2.1
      have hMl := fun w h1 h2 => Mul_row vq (.slice A1 q.length c1) Q q (by omega) (by omega) w h1 h2
      have lMl : (tr (PM Q (C q)) (Q.length + q.length)).length ≤ 300 := by
        rw [tr_length]
        have := tl_le (PM Q (C q)) (Q.length + q.length)
        omega
      have hAd := fun v w h1 h2 => Add_any v vr (tr (PM Q (C q)) (Q.length + q.length)) R (by omega) (by omega) w h1 h2
      rw [div_back hd _ (sum_big _ _ _ (by omega) (by omega))] at hAd
      obtain ⟨Aq, cq, rfl⟩ := hvq.len
      obtain ⟨Ar, cr, rfl⟩ := hvr.len
      obtain ⟨T, hTT⟩ : ∃ T, tr (C q) q.length = T := ⟨_, rfl⟩
      obtain ⟨P', hPP⟩ : ∃ P', tr (C p) p.length = P' := ⟨_, rfl⟩
      obtain ⟨Z, hZZ⟩ : ∃ Z, tr (PM p (C q)) (p.length + q.length) = Z := ⟨_, rfl⟩
      obtain ⟨Y, hYY⟩ : ∃ Y, tr (PM Q (C q)) (Q.length + q.length) = Y := ⟨_, rfl⟩
      rw [hTT] at hT ltq ltq2 hRl
      rw [hPP] at hTp hprod hAd
      rw [hZZ] at hprod lpq
      rw [hYY] at hMl lMl hAd
      have hMp := fun w h1 h2 => Mul_row (.slice A0 p.length c0) (.slice A1 q.length c1) p q (by omega) (by omega) w h1 h2
      rw [hZZ] at hMp
      have n1 : decide ((T.length : Int) = 0) = false := by simp; intro e; subst e; simp at ltq
      have n2 : ((T.length : Int) == 0) = false := by rw [beq_eq_false_iff_ne]; omega
      have n3 : decide ((R.length : Int) < (T.length : Int)) = true := decide_eq_true (by omega)
      have hd1 := hd
      clear hTT hPP hZZ hYY hd
      go_wp2_with fail
      go_at_call 13
      have hQ2 := hQ1.next hB2
      refine (hT w2 hQ2).mono ?_
      rintro e w3 ⟨v3, rfl, hv3, hB3⟩
      obtain ⟨A3, c3, rfl⟩ := hv3.sl.len
      have hB23 := below_trans hB2 hB3
      have hP3 := hP1.next hB23
      have hQ3 := hQ1.next hB23
      go_wp2_with fail
      go_at_call 17
      refine (hMp w3 hP3 hQ3).mono ?_
      rintro e w4 ⟨v4, rfl, hv4, hB4⟩
      go_wp2_with fail
      go_at_call 10
      have hB24 := below_trans hB23 hB4
      refine (Divide_yes _ _ Z q (by omega) (by omega) hm' w4 hv4.sl (hQ1.next hB24)).mono ?_
      rintro e w5 ⟨vb, vn, Q2, R2, hd2, _, rfl, hvb, hvn, hB5⟩
      obtain ⟨rfl, rfl⟩ := div_one hd2 hprod
      obtain ⟨Ab, cb, rfl⟩ := hvb.len
      obtain ⟨An, cn, rfl⟩ := hvn.len
      have hB25 := below_trans hB24 hB5
      have hB35 := below_trans (below_trans hB3 hB4) hB5
      have hvq5 := hvq.next hB35
      have hvr5 := hvr.next hB35
      have hP5 := hP1.next hB25
      have hQ5 := hQ1.next hB25
      clear hvq hvr hP3 hQ3 hP1 hQ1 hQ2 hB35 hB24 hB23 hMp hprod hd2 hd1 hv3 hv4
      have hBw := below_trans hA0 hB25
      clear hA0 hB2 hB3 hB4 hB5 hB25 hT
      go_wp2_with fail
      go_at_call 17
      refine (hMl w5 hvq5 hQ5).mono ?_
      rintro e w6 ⟨v6, rfl, hv6, hB6⟩
      go_wp2_with fail
      go_at_call 15
      refine (hAd v6 w6 hv6.sl (hvr5.next hB6)).mono ?_
      rintro e w7 ⟨v7, rfl, hv7, hB7⟩
      have hB57 := below_trans hB6 hB7
      go_wp2_with fail
      go_at_call 13
      refine (hTp w7 (hP5.next hB57)).mono ?_
      rintro e w8 ⟨v8, rfl, hv8, hB8⟩
      have hB58 := below_trans hB57 hB8
      have hs1 := same_any v7 v8 Q2 Q2 w8.heap.size w8 (hv7.sl.next hB8) hv8.sl
      rw [decide_eq_true rfl] at hs1
      go_wp2_with fail
      go_at_call 12
      refine hs1.mono ?_
      rintro e w' ⟨rfl, rfl⟩
      go_wp2_with fail
      go_at_call 13
      refine (hTp w8 (hP5.next hB58)).mono ?_
      rintro e w9 ⟨v9, rfl, hv9, hB9⟩
      have hB59 := below_trans hB58 hB9
      have hs2 := same_any _ v9 Q2 Q2 w9.heap.size w9 (hvb.next hB59) hv9.sl
      rw [decide_eq_true rfl] at hs2
      go_wp2_with fail
      go_at_call 12
      refine hs2.mono ?_
      rintro e w' ⟨rfl, rfl⟩
      go_wp2_with fail
      go_at_call 9
      refine (wakes_any _).mono ?_
      rintro e wz ⟨rfl, hBz⟩
      go_wp2
      go_ret
      exact ⟨rfl, below_trans (below_trans hBw hB59) hBz⟩
end Go.Proofs.Ytgidhkfmelpjfaa
