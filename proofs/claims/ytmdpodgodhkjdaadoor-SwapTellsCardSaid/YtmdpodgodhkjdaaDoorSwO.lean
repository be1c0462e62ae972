/- Contracts of helixref15.Find, Swap. -/
import Derived.Test.YtmdpodgodhkjdaaDoorSwN
namespace Go.Proofs.YtmdpodgodhkjdaaDoor
open Go.RowKit Go.Shelf
attribute [local go_sem] Oper.semAt_some run_store_func

/-- Whether y with a letter at a place has the sums that are asked for. -/
def MatchP (y : List UInt8) (s u : Int) (p : Nat) (c : UInt8) : Prop := sS (y.set p c) y.length % 4 = s ∧ sW (y.set p c) y.length % (6 * y.length + 1) = u
theorem lett_ok (k : Nat) (hk : k < 4) : codeOf (lett k).toNat ≠ -1 := by rw [lett_code k hk]; omega
theorem hit_match (y : List UInt8) (s u : Int) (s0 : 0 ≤ s) (s4 : s < 4) (u0 : 0 ≤ u) (u6 : u ≤ 6 * y.length) (p : Nat) (hp : p < y.length) (h : hitB y s u p = true) : ∃ k, k < 4 ∧ MatchP y s u p (lett k) :=
  ⟨(swC (s - sS y y.length % 4) (codeOf (atB y p).toNat) % 4).toNat, by omega, letB_S y s p hp s0 s4, (hit_iff y s u p hp u0 u6).1 h⟩
theorem match_range (y : List UInt8) (s u : Int) (p : Nat) (c : UInt8) (h : MatchP y s u p c) : (0 ≤ s ∧ s < 4) ∧ 0 ≤ u ∧ u ≤ 6 * y.length := by
  obtain ⟨h1, h2⟩ := h
  have h3 := Int.emod_nonneg (sW (y.set p c) y.length) (b := 6 * (y.length : Int) + 1) (by omega)
  have h4 := Int.emod_lt_of_pos (sW (y.set p c) y.length) (b := 6 * (y.length : Int) + 1) (by omega)
  omega
theorem match_find (y : List UInt8) (h2 : 2 ≤ y.length) (h1 : y.length ≤ 1000) (hy : FourL y) (s u : Int) (hne : ¬ (sS y y.length % 4 = s ∧ sW y y.length % (6 * y.length + 1) = u)) (p k : Nat) (hp : p < y.length) (hk : k < 4) (hm : MatchP y s u p (lett k))
    (hno : ∀ j, j < p → ∀ i, i < 4 → ¬ MatchP y s u j (lett i)) : findG y s u = .ok ((p : Int), lett k) := by
  obtain ⟨⟨s0, s4⟩, u0, u6⟩ := match_range y s u p _ hm
  have hh := hit_only y hy s u p (lett k) hp (lett_ok k hk) u0 u6 hm.1 hm.2
  have hno' : ∀ j, j < p → hitB y s u j = false := by
    intro j hj
    rw [Bool.eq_false_iff]
    intro h
    obtain ⟨i, hi, hmi⟩ := hit_match y s u s0 s4 u0 u6 j (by omega) h
    exact hno j hj i hi hmi
  rw [findG, four_sums y h2 h1 hy]
  simp only [if_neg hne]
  rw [if_neg (by omega), find_first hp hh.1 hno']
  simp only [← hh.2]
theorem none_find (y : List UInt8) (h2 : 2 ≤ y.length) (h1 : y.length ≤ 1000) (hy : FourL y) (s u : Int) (hne : ¬ (sS y y.length % 4 = s ∧ sW y y.length % (6 * y.length + 1) = u))
    (hno : ∀ j, j < y.length → ∀ i, i < 4 → ¬ MatchP y s u j (lett i)) : findG y s u = .error 130 := by
  rw [findG, four_sums y h2 h1 hy]
  simp only [if_neg hne]
  by_cases hr : 0 ≤ s ∧ s < 4 ∧ 0 ≤ u ∧ u ≤ 6 * y.length
  · rw [if_neg (by omega), find_not]
    intro j hj
    rw [Bool.eq_false_iff]
    intro h
    obtain ⟨i, hi, hmi⟩ := hit_match y s u hr.1 hr.2.1 hr.2.2.1 hr.2.2.2 j hj h
    exact hno j hj i hi hmi
  · rw [if_pos hr]
set_option maxRecDepth 100000 in
set_option maxHeartbeats 4000000 in
theorem rFind_ok (y : List UInt8) (s u : Int) (A : Option Addr) (cap : Nat) (w : World) (hS : Sl eB w.heap.size w (.slice A y.length cap) y) (h2 : 2 ≤ y.length) (h1 : y.length ≤ 1000) (hy : FourL y) :
    Calls Tryd.prog 26 #[.slice A y.length cap, .int .i64 s, .int .i64 u] w (FindTells y s u w) := by
  have hF := rfits_any (.slice A y.length cap) y (by omega) w hS
  rw [four_sums y h2 h1 hy] at hF
  have hO := rOf_four y h2 h1 hy (.slice A y.length cap)
  have hB := fun (p : Nat) c w hS => rBy_any y p c (.slice A y.length cap) w hS (by omega)
  by_cases hsame : sS y y.length % 4 = s ∧ sW y y.length % (6 * y.length + 1) = u
  · have Hg := Lib.hid (show findG y s u = .ok (-1, 0) by
      rw [findG, four_sums y h2 h1 hy]
      simp only [if_pos hsame])
    obtain ⟨e1, e2⟩ := hsame
    rw [e1, e2] at hO
    have g1 : (s == s) = true := by simp
    have g2 : (u == u) = true := by simp
    clear e1 e2 hB hy h1 h2
    generalize sT y y.length % (y.length : Int) = ta at *
    go_enter Tryd.func26, Tryd.ntmps26
    go_wp2_with (go_at_call 49; refine hF.mono ?_; rintro e w' ⟨rfl, rfl⟩)
    go_at_call 22
    refine (hO _ hS).mono ?_
    rintro e w5 ⟨rfl, hC⟩
    have hAa := below_alloc w5 (.cells (c3 ta s u) 36)
    have hra := Rowed.new w5 36 (c3 ta s u)
    have hC := below_trans hC hAa
    clear hAa hO
    go_upto_region 5 with fail
    generalize w5.alloc (.cells (c3 ta s u) 36) = w6 at *
    generalize w5.heap.size = ga at *
    obtain ⟨p0, p1, p2⟩ := cells_of_row hra
    go_wp2_with fail
    refine bodyPost_ret (v := .tuple #[.int .i64 (-1), eB 0, .int .i64 0]) ?_ rfl ⟨hC, .inl ⟨-1, 0, Hg.out, rfl⟩⟩
    simp [results, Tryd.f26, go_sem]
  · have hd : (sS y y.length % 4 == s) = false ∨ ((sS y y.length % 4 == s) = true ∧ (sW y y.length % (6 * y.length + 1) == u) = false) := by
      by_cases e : sS y y.length % 4 = s
      · exact .inr ⟨by simpa using e, by simpa using fun e2 => hsame ⟨e, e2⟩⟩
      · exact .inl (by simpa using e)
    have Hm := Lib.hid (fun p k hp hk hm hno => match_find y h2 h1 hy s u hsame p k hp hk hm hno)
    have Hn := Lib.hid (none_find y h2 h1 hy s u hsame)
    have hBy : ∀ (p k : Nat), p < y.length → k < 4 → ∀ w, Sl eB w.heap.size w (.slice A y.length cap) y → Calls Tryd.prog 30 #[.slice A y.length cap, .int .i64 p, eB (lett k)] w fun e w' => ∃ v, e = .returned (.tuple #[v, .int .i64 0]) ∧ Sl eB w'.heap.size w' v (y.set p (lett k)) ∧ Below w.heap.size w w' := by
      intro p k hp hk w hS
      refine (hB p (lett k) w hS).mono ?_
      rintro e w' ⟨hC, ⟨r, v, h, rfl, hv⟩ | ⟨m, h, rfl⟩⟩
      · rw [byG_ok y p (lett k) h2 h1 hy hp (lett_ok k hk)] at h; cases h; exact ⟨v, rfl, hv, hC⟩
      · rw [byG_ok y p (lett k) h2 h1 hy hp (lett_ok k hk)] at h; cases h
    have hOf : ∀ (p k : Nat), p < y.length → k < 4 → ∀ v w, Sl eB w.heap.size w v (y.set p (lett k)) → Calls Tryd.prog 22 #[v] w fun e w' => ∃ a b c, e = .returned (.tuple #[v3 a b c, .int .i64 0]) ∧ Below w.heap.size w w' ∧ Hid (b = sS (y.set p (lett k)) y.length % 4 ∧ c = sW (y.set p (lett k)) y.length % (6 * y.length + 1)) := by
      intro p k hp hk v w hS
      have hl : (y.set p (lett k)).length = y.length := by simp
      refine (rOf_four (y.set p (lett k)) (by omega) (by omega) (hy.set p (lett_ok k hk)) v w hS).mono ?_
      rintro e w' ⟨rfl, hC⟩
      rw [hl]
      exact ⟨_, _, _, rfl, hC, Lib.hid ⟨rfl, rfl⟩⟩
    have hLt : ∀ (k : Nat), k < 4 → ∀ w, Calls Tryd.prog 38 #[.int .i64 k] w fun e w' => e = .returned (eB (lett k)) ∧ w = w' := by
      intro k hk w
      have h := rLetter_any k w
      rwa [show letterOf (k : Int) = lett k by unfold letterOf; congr 1; omega] at h
    have Hl := Lib.hid h1
    clear hB hy h1 h2 hsame
    generalize sT y y.length % (y.length : Int) = ta at *
    generalize sS y y.length % 4 = sa at *
    generalize sW y y.length % (6 * (y.length : Int) + 1) = wa at *
    go_enter Tryd.func26, Tryd.ntmps26
    go_wp2_with (go_at_call 49; refine hF.mono ?_; rintro e w' ⟨rfl, rfl⟩)
    go_at_call 22
    refine (hO _ hS).mono ?_
    rintro e w5 ⟨rfl, hC⟩
    have hAa := below_alloc w5 (.cells (c3 ta sa wa) 36)
    have hra := Rowed.new w5 36 (c3 ta sa wa)
    have hC := below_trans hC hAa
    have hS := hS.next hC
    clear hAa hO hF
    go_upto_region 5 with fail
    generalize w5.alloc (.cells (c3 ta sa wa) 36) = w6 at *
    generalize w5.heap.size = ga at *
    obtain ⟨p0, p1, p2⟩ := cells_of_row hra
    clear hra
    rcases hd with g1 | ⟨g1, g2⟩
    all_goals
      go_upto_region 8 with fail
      clear p0 p1 p2
      go_wp2_with fail
      go_loopw [12] (fun i wr => ∃ p : Nat, p ≤ y.length ∧ i = .int .i64 p ∧ (∀ j, j < p → ∀ k, k < 4 → ¬ MatchP y s u j (lett k)) ∧ Below w6.heap.size w6 wr) (fun i _ => y.length - (intOf i).toNat)
      case atStart => exact ⟨0, Nat.zero_le _, rfl, fun j hj => absurd hj (by omega), Below.refl _ _⟩
      case round =>
        obtain ⟨p, hp, rfl, hno, hBr⟩ := hrel
        by_cases hlt : p < y.length
        · have hpl : (p : Int) < y.length := by omega
          have Hp := Lib.hid hlt
          have Hno := Lib.hid hno
          clear hlt hp hno
          go_wp2_with fail
          go_loopw [13] (fun i wr2 => ∃ k : Nat, k ≤ 4 ∧ i = .int .i64 k ∧ (∀ i, i < k → ¬ MatchP y s u p (lett i)) ∧ Below w6.heap.size w6 wr2) (fun i _ => 4 - (intOf i).toNat)
          case atStart => exact ⟨0, Nat.zero_le _, rfl, fun j hj => absurd hj (by omega), hBr⟩
          case round =>
            obtain ⟨k, hk, rfl, hnk, hB2⟩ := hrel
            by_cases hlt : k < 4
            · have hkl : (k : Int) < 4 := by omega
              have hS2 := (hS.below hB2).more hB2.size
              have b1 := hBy p k Hp.out hlt
              have b2 := hOf p k Hp.out hlt
              have b3 := hLt k hlt
              have Hk := Lib.hid hlt
              have Hnk := Lib.hid hnk
              clear hlt hk hnk
              go_wp2_with fail
              go_at_call 38
              refine (b3 _).mono ?_
              rintro e w' ⟨rfl, rfl⟩
              go_wp2_with fail
              go_at_call 30
              refine (b1 _ hS2).mono ?_
              rintro e w7 ⟨v7, rfl, hv7, hC7⟩
              go_wp2_with fail
              go_at_call 22
              refine (b2 _ _ hv7).mono ?_
              rintro e w8 ⟨a, b, c, rfl, hC8, Hbc⟩
              have hA8 := below_alloc w8 (.cells (c3 a b c) 36)
              have hr8 := Rowed.new w8 36 (c3 a b c)
              have hB8 := ((hB2.trans (hC7.mono hB2.size)).trans ((below_trans hC8 hA8).mono (Nat.le_trans hB2.size hC7.size)))
              clear hA8 b1 b2 hC7 hC8 hv7 hS2
              go_upto_region 15 with fail
              generalize w8.alloc (.cells (c3 a b c) 36) = w9 at *
              generalize w8.heap.size = g9 at *
              obtain ⟨p0, p1, p2⟩ := cells_of_row hr8
              by_cases hmm : MatchP y s u p (lett k)
              · have Hg := Lib.hid (Hm.out p k Hp.out Hk.out hmm Hno.out)
                obtain ⟨m1, m2⟩ := hmm
                have q1 : (b == s) = true := by rw [Hbc.out.1, m1]; simp
                have q2 : (c == u) = true := by rw [Hbc.out.2, m2]; simp
                clear m1 m2
                go_wp2_with (go_at_call 38; refine (b3 _).mono ?_; rintro e w' ⟨rfl, rfl⟩)
                refine bodyPost_ret (v := .tuple #[.int .i64 p, eB (lett k), .int .i64 0]) ?_ rfl ⟨below_trans hC hB8, .inl ⟨p, lett k, Hg.out, rfl⟩⟩
                simp [results, Tryd.f26, go_sem]
              · have hq : (b == s) = false ∨ ((b == s) = true ∧ (c == u) = false) := by
                  by_cases e : b = s
                  · refine .inr ⟨by simpa using e, ?_⟩
                    rw [beq_eq_false_iff_ne]
                    intro e2
                    exact hmm ⟨by rw [← Hbc.out.1]; exact e, by rw [← Hbc.out.2]; exact e2⟩
                  · exact .inl (by simpa using e)
                have Hn' := Lib.hid (show ∀ i, i < k + 1 → ¬ MatchP y s u p (lett i) from fun i hi => by
                  by_cases e : i = k
                  · rw [e]; exact hmm
                  · exact Hnk.out i (by omega))
                clear hmm
                rcases hq with q1 | ⟨q1, q2⟩
                all_goals
                  go_wp2_with fail
                  go_roundw
                  case rel => exact ⟨k + 1, by have := Hk.out; omega, by go_num, Hn'.out, hB8⟩
                  case measure => have := Hk.out; simp [intOf]; omega
            · obtain rfl : k = 4 := by omega
              have Hn' := Lib.hid (show ∀ j, j < p + 1 → ∀ k, k < 4 → ¬ MatchP y s u j (lett k) from fun j hj => by
                by_cases e : j = p
                · rw [e]; exact hnk
                · exact Hno.out j (by omega))
              have h1000 := Hl.out
              have hp1 := Hp.out
              clear hlt hk hnk
              go_wp2_with fail
              go_roundw
              case rel => exact ⟨p + 1, by omega, by go_num, Hn'.out, hB2⟩
              case measure => simp [intOf]; omega
        · obtain rfl : p = y.length := by omega
          have Hg := Lib.hid (Hn.out hno)
          clear hlt hp hno
          go_wp2_with fail
          refine bodyPost_ret (v := .tuple #[.int .i64 0, eB 0, .int .i64 130]) ?_ rfl ⟨below_trans hC hBr, .inr ⟨130, Hg.out, rfl⟩⟩
          simp [results, Tryd.f26, go_sem]
end Go.Proofs.YtmdpodgodhkjdaaDoor
