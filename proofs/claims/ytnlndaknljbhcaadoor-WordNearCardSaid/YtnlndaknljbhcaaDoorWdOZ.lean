/- Contract of the law's clean; the words of clean rows. -/
import Derived.Test.YtnlndaknljbhcaaDoorWdWZ
namespace Go.Proofs.YtnlndaknljbhcaaDoor
open Go.RowKit Go.Shelf
attribute [local go_sem] Oper.semAt_some run_store_func

/-- Whether all letters are of the four, and from 2 to 60 of them. -/
def CleanW (s : List UInt8) : Prop := 2 ≤ s.length ∧ s.length ≤ 60 ∧ ∀ k, k < s.length → codeOf (atB s k).toNat ≠ -1
instance (s : List UInt8) : Decidable (CleanW s) := by unfold CleanW; infer_instance
set_option maxRecDepth 100000 in
set_option maxHeartbeats 4000000 in
theorem wclean_any (sv : Value) (s : List UInt8) (w : World) (hS : Sl eB w.heap.size w sv s) :
    Calls Tryd.prog 24 #[sv] w fun e w' => e = .returned (.bool (decide (CleanW s))) ∧ w = w' := by
  obtain ⟨A, c, rfl, hc, hcs⟩ := hS
  go_enter Tryd.func24, Tryd.ntmps24
  go_wp2_with fail
  go_loop [3] (fun i => ∃ k : Nat, k ≤ s.length ∧ k ≤ 61 ∧ i = .int .i64 k ∧ ∀ j, j < k → codeOf (atB s j).toNat ≠ -1) (fun i => 70 - (intOf i).toNat)
  case atStart => exact ⟨0, Nat.zero_le _, by omega, rfl, fun j hj => absurd hj (by omega)⟩
  case round =>
    obtain ⟨k, hk, hk61, rfl, hok⟩ := hrel
    by_cases hlt : k < s.length
    · have d1 : decide ((k : Int) < (s.length : Int)) = true := decide_eq_true (by omega)
      have hkl : (k : Int) < (s.length : Int) := by omega
      by_cases h60 : k ≤ 60
      · have d2 : decide ((k : Int) ≤ 60) = true := decide_eq_true (by omega)
        obtain ⟨b, off, rfl, hb, hcell⟩ := hcs (by omega)
        have hx := hcell k _ (atB_lt hlt)
        by_cases hbad : codeOf (atB s k).toNat = -1
        · have hno : decide (CleanW s) = false := decide_eq_false (fun h => h.2.2 k hlt hbad)
          obtain ⟨n0, n1, n2, n3⟩ := code_none hbad
          have b0 := byte_neq n0
          have b1 := byte_neq n1
          have b2 := byte_neq n2
          have b3 := byte_neq n3
          have Hn := Lib.hid hno
          clear n0 n1 n2 n3 hbad hcell hcs hok hno
          generalize atB s k = y at *
          simp only [show ((65 : UInt8).toNat : Int) = 65 from rfl, show ((67 : UInt8).toNat : Int) = 67 from rfl, show ((71 : UInt8).toNat : Int) = 71 from rfl, show ((84 : UInt8).toNat : Int) = 84 from rfl] at b0 b1 b2 b3
          go_wp2_with fail
          go_ret
          exact ⟨by rw [Hn.out]; rfl, rfl⟩
        · have Hok := Lib.hid (show ∀ j, j < k + 1 → codeOf (atB s j).toNat ≠ -1 from fun j hj => by
            by_cases e : j = k
            · rw [e]; exact hbad
            · exact hok j (by omega))
          have hfour := code_four hbad
          clear hbad hcell hcs hok
          generalize atB s k = y at *
          rcases hfour with rfl | rfl | rfl | rfl
          all_goals
            go_wp2_with fail
            go_round
            case rel => exact ⟨k + 1, by omega, by omega, by go_num, Hok.out⟩
            case measure => simp [intOf]; omega
      · have d2 : decide ((k : Int) ≤ 60) = false := decide_eq_false (by omega)
        have hno : decide (CleanW s) = false := decide_eq_false (fun h => by have := h.2.1; omega)
        have d3 : decide ((2 : Int) ≤ (s.length : Int)) = true := decide_eq_true (by omega)
        have d4 : decide ((s.length : Int) ≤ 60) = false := decide_eq_false (by omega)
        have Hn := Lib.hid hno
        clear hok hno hcs
        go_wp2_with fail
        go_ret
        exact ⟨by rw [Hn.out]; rfl, rfl⟩
    · obtain rfl : k = s.length := by omega
      have d1 : decide ((s.length : Int) < (s.length : Int)) = false := decide_eq_false (by omega)
      by_cases h2 : 2 ≤ s.length
      · have d3 : decide ((2 : Int) ≤ (s.length : Int)) = true := decide_eq_true (by omega)
        by_cases h60 : s.length ≤ 60
        · have d4 : decide ((s.length : Int) ≤ 60) = true := decide_eq_true (by omega)
          have Hn := Lib.hid (show decide (CleanW s) = true from decide_eq_true ⟨h2, h60, hok⟩)
          clear hok hcs h2 h60
          go_wp2_with fail
          go_ret
          exact ⟨by rw [Hn.out]; rfl, rfl⟩
        · have d4 : decide ((s.length : Int) ≤ 60) = false := decide_eq_false (by omega)
          have Hn := Lib.hid (show decide (CleanW s) = false from decide_eq_false (fun h => h60 h.2.1))
          clear hok hcs h2 h60
          go_wp2_with fail
          go_ret
          exact ⟨by rw [Hn.out]; rfl, rfl⟩
      · have d3 : decide ((2 : Int) ≤ (s.length : Int)) = false := decide_eq_false (by omega)
        have Hn := Lib.hid (show decide (CleanW s) = false from decide_eq_false (fun h => h2 h.1))
        clear hok hcs h2
        go_wp2_with fail
        go_ret
        exact ⟨by rw [Hn.out]; rfl, rfl⟩
theorem clean_may {x : List UInt8} (h : CleanW x) : ∃ a b c, sumsG x = .ok (a, b, c) ∧ wfG x = .ok (fldL x a b c) := by
  have hm : mayB x.length = true := by unfold mayB; rw [decide_eq_true (by have := h.1; omega), decide_eq_true (by have := h.2.1; omega)]; rfl
  have hs : sumsG x = .ok (sT x x.length % x.length, sS x x.length % 4, sW x x.length % (6 * x.length + 1)) := by
    rw [sumsG, if_neg (by rw [hm]; simp), if_neg (fun ⟨k, h1, h2⟩ => h.2.2 k h1 h2)]
  refine ⟨_, _, _, hs, ?_⟩
  unfold wfG
  rw [if_pos ⟨h.1, by have := h.2.1; omega⟩, hs]
/-- The word of a clean row. -/
def wordC (x : List UInt8) : List UInt8 := match wfG x with | .ok f => wordL x f | .error _ => []
theorem wordC_len {x : List UInt8} (h : CleanW x) : (wordC x).length = wlongN x.length := by
  obtain ⟨a, b, c, -, hw⟩ := clean_may h
  unfold wordC
  rw [hw]
  exact wordL_length x _ (fldL_length _ _ _ _)
theorem wordC_le {x : List UInt8} (h : CleanW x) : (wordC x).length ≤ 120 := by
  rw [wordC_len h]
  have := h.2.1
  have := Lib.bitLen_le (x.length - 1) 6 (by omega) (by omega)
  have := Lib.bitLen_le (6 * x.length) 9 (by omega) (by omega)
  unfold wlongN longN zb tb wb
  omega
theorem wordC_far {x y : List UInt8} (hx : CleanW x) (hy : CleanW y) (hl : x.length = y.length) (hne : x ≠ y) : 2 < dist (wordC x) (wordC y) := by
  obtain ⟨a, b, c, hs, hw⟩ := clean_may hx
  obtain ⟨a', b', c', hs', hw'⟩ := clean_may hy
  unfold wordC
  rw [hw, hw']
  exact words_far hs hs' hl hne
theorem Make_clean (x : List UInt8) (hx : CleanW x) (sv : Value) (w : World) (hT : Tab w) (hTB : TabB w) (hS : Sl eB w.heap.size w sv x) :
    Calls Tryd.prog 9 #[sv] w fun e w' => Below w.heap.size w w' ∧ ∃ u, e = .returned (.tuple #[u, .int .i64 0]) ∧ Sl eB w'.heap.size w' u (wordC x) := by
  obtain ⟨a, b, c, -, hw⟩ := clean_may hx
  refine (WMake_any sv x w hT hTB hS).mono ?_
  rintro e w' ⟨hB, ⟨f, u, hf, rfl, hu, -⟩ | ⟨m, hm, rfl⟩⟩
  · refine ⟨hB, u, rfl, ?_⟩
    unfold wordC
    rw [hf]
    exact hu
  · rw [hw] at hm; cases hm
end Go.Proofs.YtnlndaknljbhcaaDoor
/- WordFar. -/
namespace Go.Proofs.YtnlndaknljbhcaaDoor
open Go.RowKit Go.Shelf
attribute [local go_sem] Oper.semAt_some run_store_func

theorem RDist_words {x y : List UInt8} (hx : CleanW x) (hy : CleanW y) (hl : x.length = y.length) (hne : x ≠ y) (va vb : Value) (w : World) (hSa : Sl eB w.heap.size w va (wordC y)) (hSb : Sl eB w.heap.size w vb (wordC x)) :
    ∃ d : Nat, 2 < d ∧ Calls Tryd.prog 26 #[va, vb] w fun e w' => e = .returned (.int .i64 d) ∧ Below w.heap.size w w' := by
  have h := RDistance_any va vb (wordC y) (wordC x) w hSa hSb
  rw [List.take_of_length_le (by have := wordC_le hy; omega), List.take_of_length_le (by have := wordC_le hx; omega)] at h
  exact ⟨_, by rw [dist_comm]; exact wordC_far hx hy hl hne, h⟩
set_option maxRecDepth 100000 in
set_option maxHeartbeats 4000000 in
theorem WordFar_any (v0 : Value) (x : List UInt8) (v1 : Value) (y : List UInt8) (w : World) (h0 : Sl eB w.heap.size w v0 x) (h1 : Sl eB w.heap.size w v1 y) (hT : Tab w) (hTB : TabB w) :
    Calls Tryd.prog 5 #[v0, v1] w fun e w' => e = .returned (.bool true) ∧ Below w.heap.size w w' := by
  have hcx := wclean_any v0 x w h0
  have hcy := wclean_any v1 y w h1
  have hwk := wwakes_any
  obtain ⟨A, c, rfl⟩ := h0.len
  obtain ⟨A', c', rfl⟩ := h1.len
  by_cases hx : CleanW x
  · rw [decide_eq_true hx] at hcx
    by_cases hy : CleanW y
    · rw [decide_eq_true hy] at hcy
      by_cases hl : x.length = y.length
      · have hsm := same_any _ _ x y w.heap.size w h0 h1
        have b1 : ((x.length : Int) == (y.length : Int)) = true := by rw [hl]; simp
        have b2 : ((x.length : Int) != (y.length : Int)) = false := by rw [hl]; simp
        have b3 : (x.length == y.length) = true := by rw [hl]; simp
        have Hl := Lib.hid hl
        clear hl
        by_cases he : x = y
        · rw [decide_eq_true he] at hsm
          clear he hx hy
          go_enter Tryd.func5, Tryd.ntmps5
          go_wp2_with fail
          go_at_call 24
          refine (hcx).mono ?_
          rintro e w' ⟨rfl, rfl⟩
          go_wp2_with fail
          go_at_call 24
          refine (hcy).mono ?_
          rintro e w' ⟨rfl, rfl⟩
          go_wp2_with fail
          go_at_call 17
          refine hsm.mono ?_
          rintro e w' ⟨rfl, rfl⟩
          go_wp2_with fail
          go_at_call 8
          refine (hwk _ hT hTB).mono ?_
          rintro e w' ⟨rfl, hB⟩
          go_wp2_with fail
          go_ret
          exact ⟨rfl, hB⟩
        · rw [decide_eq_false he] at hsm
          have hD := fun va vb w h1 h2 => RDist_words hx hy Hl.out he va vb w h1 h2
          have hMx := fun w h1 h2 h3 => Make_clean x hx (.slice A x.length c) w h1 h2 h3
          have hMy := fun w h1 h2 h3 => Make_clean y hy (.slice A' y.length c') w h1 h2 h3
          generalize wordC x = wx at *
          generalize wordC y = wy at *
          clear he hx hy
          go_enter Tryd.func5, Tryd.ntmps5
          go_wp2_with fail
          go_at_call 24
          refine (hcx).mono ?_
          rintro e w' ⟨rfl, rfl⟩
          go_wp2_with fail
          go_at_call 24
          refine (hcy).mono ?_
          rintro e w' ⟨rfl, rfl⟩
          go_wp2_with fail
          go_at_call 17
          refine hsm.mono ?_
          rintro e w' ⟨rfl, rfl⟩
          go_wp2_with fail
          go_at_call 9
          refine (hMx _ hT hTB h0).mono ?_
          rintro e w1 ⟨hB, u, rfl, hu⟩
          have hT1 := hT.below hB
          have hTB1 := hTB.below hB
          obtain ⟨Au, cu, rfl⟩ := hu.len
          clear hcx hcy hsm hMx
          go_wp2_with fail
          go_at_call 9
          refine (hMy _ hT1 hTB1 (h1.next hB)).mono ?_
          rintro e w2 ⟨hB2, v, rfl, hv⟩
          have hT2 := hT1.below hB2
          have hTB2 := hTB1.below hB2
          have hB3 := below_trans hB hB2
          obtain ⟨d, hd, hDd⟩ := hD v _ _ hv (hu.next hB2)
          obtain ⟨Av, cv, rfl⟩ := hv.len
          have g1 : decide ((2 : Int) < (d : Int)) = true := decide_eq_true (by omega)
          have g2 : (2 : Int) < (d : Int) := by omega
          have g3 : decide (2 < d) = true := decide_eq_true hd
          clear hMy hD hB hB2 hT hTB hT1 hTB1 h0 h1 hu hv
          go_wp2_with fail
          go_at_call 26
          refine hDd.mono ?_
          rintro e w4 ⟨rfl, hB4⟩
          go_wp2_with fail
          go_at_call 8
          refine (hwk _ (hT2.below hB4) (hTB2.below hB4)).mono ?_
          rintro e w5 ⟨rfl, hB5⟩
          go_wp2_with fail
          go_ret
          exact ⟨rfl, below_trans (below_trans hB3 hB4) hB5⟩
      · have hli : ¬ (x.length : Int) = (y.length : Int) := by omega
        have b1 : ((x.length : Int) == (y.length : Int)) = false := by rw [beq_eq_false_iff_ne]; exact hli
        have b2 : ((x.length : Int) != (y.length : Int)) = true := by rw [bne_iff_ne]; exact hli
        have b3 : (x.length == y.length) = false := by simpa using hl
        clear hl hli hx hy
        go_enter Tryd.func5, Tryd.ntmps5
        go_wp2_with fail
        go_at_call 24
        refine (hcx).mono ?_
        rintro e w' ⟨rfl, rfl⟩
        go_wp2_with fail
        go_at_call 24
        refine (hcy).mono ?_
        rintro e w' ⟨rfl, rfl⟩
        go_wp2_with fail
        go_at_call 8
        refine (hwk _ hT hTB).mono ?_
        rintro e w' ⟨rfl, hB⟩
        go_wp2_with fail
        go_ret
        exact ⟨rfl, hB⟩
    · rw [decide_eq_false hy] at hcy
      clear hx hy
      go_enter Tryd.func5, Tryd.ntmps5
      go_wp2_with fail
      go_at_call 24
      refine (hcx).mono ?_
      rintro e w' ⟨rfl, rfl⟩
      go_wp2_with fail
      go_at_call 24
      refine (hcy).mono ?_
      rintro e w' ⟨rfl, rfl⟩
      go_wp2_with fail
      go_at_call 8
      refine (hwk _ hT hTB).mono ?_
      rintro e w' ⟨rfl, hB⟩
      go_wp2_with fail
      go_ret
      exact ⟨rfl, hB⟩
  · rw [decide_eq_false hx] at hcx
    clear hx hcy
    go_enter Tryd.func5, Tryd.ntmps5
    go_wp2_with fail
    go_at_call 24
    refine (hcx).mono ?_
    rintro e w' ⟨rfl, rfl⟩
    go_wp2_with fail
    go_at_call 8
    refine (hwk _ hT hTB).mono ?_
    rintro e w' ⟨rfl, hB⟩
    go_wp2_with fail
    go_ret
    exact ⟨rfl, hB⟩
end Go.Proofs.YtnlndaknljbhcaaDoor
