/- The walk of ShapeMore. -/
import Derived.Test.YtjfhbhidnlgabaaDoorShY
namespace Go.Proofs.YtjfhbhidnlgabaaDoor
open Go.RowKit Go.Shelf
attribute [local go_sem] Oper.semAt_some run_store_func

theorem keep6 {w0 w w' : World} {b : Nat} {x y z x' y' z' : Value} (hl : b + 1 < w0.heap.size)
    (h : w.cell? ⟨b, 0, none⟩ = some x ∧ w.cell? ⟨b, 1, none⟩ = some y ∧ w.cell? ⟨b, 2, none⟩ = some z ∧ w.cell? ⟨b + 1, 0, none⟩ = some x' ∧ w.cell? ⟨b + 1, 1, none⟩ = some y' ∧ w.cell? ⟨b + 1, 2, none⟩ = some z' ∧ Below w0.heap.size w0 w) (hb : Below w.heap.size w w') :
    w'.cell? ⟨b, 0, none⟩ = some x ∧ w'.cell? ⟨b, 1, none⟩ = some y ∧ w'.cell? ⟨b, 2, none⟩ = some z ∧ w'.cell? ⟨b + 1, 0, none⟩ = some x' ∧ w'.cell? ⟨b + 1, 1, none⟩ = some y' ∧ w'.cell? ⟨b + 1, 2, none⟩ = some z' ∧ Below w0.heap.size w0 w' := by
  obtain ⟨h0, h1, h2, h3, h4, h5, hB⟩ := h
  have hs := hB.size
  exact ⟨(hb.cell (p := ⟨b, 0, none⟩) (by show b < _; omega)).trans h0, (hb.cell (p := ⟨b, 1, none⟩) (by show b < _; omega)).trans h1, (hb.cell (p := ⟨b, 2, none⟩) (by show b < _; omega)).trans h2,
    (hb.cell (p := ⟨b + 1, 0, none⟩) (by show b + 1 < _; omega)).trans h3, (hb.cell (p := ⟨b + 1, 1, none⟩) (by show b + 1 < _; omega)).trans h4, (hb.cell (p := ⟨b + 1, 2, none⟩) (by show b + 1 < _; omega)).trans h5, hB.trans (hb.mono hs)⟩

set_option maxRecDepth 100000 in
set_option maxHeartbeats 4000000 in
theorem More_1 (P D R R1 L O G : Int) (hR : wrap64 (R + 1) = R1) (w : World) (hT : Tab w)
    (cC : ∀ w, Calls Tryd.prog 8 #[shV P D R] w fun e w' => e = .returned (.int .i64 180) ∧ Below w.heap.size w w') :
    Calls Tryd.prog 6 #[shV P D R, .int .i64 L, .int .i64 O, .int .i64 G] w fun e w' => e = .returned (.bool true) ∧ Below w.heap.size w w' := by
  have hA1 := below_alloc w (.cells #[.int .i64 P, .int .i64 D, .int .i64 R] 23)
  have hA2 := below_alloc (w.alloc (.cells #[.int .i64 P, .int .i64 D, .int .i64 R] 23)) (.cells #[.int .i64 P, .int .i64 D, .int .i64 R1] 23)
  have hA := below_trans hA1 hA2
  have hI := (InBox.new w P D R 23).below hA2 (by simp)
  have hJ := InBox.new (w.alloc (.cells #[.int .i64 P, .int .i64 D, .int .i64 R] 23)) P D R1 23
  rw [World.size_alloc] at hJ
  have hT0 := hT.below hA
  go_enter Tryd.func6, Tryd.ntmps6
  go_wp2_with fail
  go_at_call 8
  refine (cC _).mono ?_
  rintro e w1 ⟨rfl, hB1⟩
  have hA3 := below_trans hA hB1
  have hT1 := hT0.below hB1
  clear cC hB1 hT0 hA hI hJ hA1 hA2
  go_wp2_with (go_at_call 27; refine (wakes_any _ hT1).mono ?_; rintro e w2 ⟨rfl, hB2⟩)
  go_ret
  exact ⟨rfl, below_trans hA3 hB2⟩
set_option maxRecDepth 100000 in
set_option maxHeartbeats 4000000 in
theorem More_2 (P D R R1 L O G : Int) (hR : wrap64 (R + 1) = R1) (w : World) (hT : Tab w)
    (cC : ∀ w, Calls Tryd.prog 8 #[shV P D R] w fun e w' => e = .returned (.int .i64 0) ∧ Below w.heap.size w w')
    (cD : ∀ w, Calls Tryd.prog 8 #[shV P D R1] w fun e w' => e = .returned (.int .i64 180) ∧ Below w.heap.size w w') :
    Calls Tryd.prog 6 #[shV P D R, .int .i64 L, .int .i64 O, .int .i64 G] w fun e w' => e = .returned (.bool true) ∧ Below w.heap.size w w' := by
  have hA1 := below_alloc w (.cells #[.int .i64 P, .int .i64 D, .int .i64 R] 23)
  have hA2 := below_alloc (w.alloc (.cells #[.int .i64 P, .int .i64 D, .int .i64 R] 23)) (.cells #[.int .i64 P, .int .i64 D, .int .i64 R1] 23)
  have hA := below_trans hA1 hA2
  have hI := (InBox.new w P D R 23).below hA2 (by simp)
  have hJ := InBox.new (w.alloc (.cells #[.int .i64 P, .int .i64 D, .int .i64 R] 23)) P D R1 23
  rw [World.size_alloc] at hJ
  have hT0 := hT.below hA
  go_enter Tryd.func6, Tryd.ntmps6
  go_wp2_with fail
  go_at_call 8
  refine (cC _).mono ?_
  rintro e w1 ⟨rfl, hB1⟩
  have hA3 := below_trans hA hB1
  have hT1 := hT0.below hB1
  obtain ⟨j0, j1, j2⟩ := hJ.below hB1 hJ.lt
  clear cC hB1 hT0 hA hI hJ hA1 hA2
  go_wp2_with fail
  go_at_call 8
  refine (cD _).mono ?_
  rintro e w2 ⟨rfl, hB2⟩
  have hA4 := below_trans hA3 hB2
  have hT2 := hT1.below hB2
  clear cD hB2 hT1 hA3
  go_wp2_with (go_at_call 27; refine (wakes_any _ hT2).mono ?_; rintro e w3 ⟨rfl, hB3⟩)
  go_ret
  exact ⟨rfl, below_trans hA4 hB3⟩
set_option maxRecDepth 100000 in
set_option maxHeartbeats 4000000 in
theorem More_3 (P D R R1 L O G : Int) (hR : wrap64 (R + 1) = R1) (w : World) (hT : Tab w)
    (cC : ∀ w, Calls Tryd.prog 8 #[shV P D R] w fun e w' => e = .returned (.int .i64 0) ∧ Below w.heap.size w w')
    (cD : ∀ w, Calls Tryd.prog 8 #[shV P D R1] w fun e w' => e = .returned (.int .i64 0) ∧ Below w.heap.size w w')
    (hc : decide (L < 0) = true ∨ (decide (L < 0) = false ∧ decide (O < L) = true) ∨ (decide (L < 0) = false ∧ decide (O < L) = false ∧ decide (4000 < O) = true)) :
    Calls Tryd.prog 6 #[shV P D R, .int .i64 L, .int .i64 O, .int .i64 G] w fun e w' => e = .returned (.bool true) ∧ Below w.heap.size w w' := by
  have hA1 := below_alloc w (.cells #[.int .i64 P, .int .i64 D, .int .i64 R] 23)
  have hA2 := below_alloc (w.alloc (.cells #[.int .i64 P, .int .i64 D, .int .i64 R] 23)) (.cells #[.int .i64 P, .int .i64 D, .int .i64 R1] 23)
  have hA := below_trans hA1 hA2
  have hI := (InBox.new w P D R 23).below hA2 (by simp)
  have hJ := InBox.new (w.alloc (.cells #[.int .i64 P, .int .i64 D, .int .i64 R] 23)) P D R1 23
  rw [World.size_alloc] at hJ
  have hT0 := hT.below hA
  rcases hc with c1 | ⟨c1, c2⟩ | ⟨c1, c2, c3⟩
  all_goals
    go_enter Tryd.func6, Tryd.ntmps6
    go_wp2_with fail
    go_at_call 8
    refine (cC _).mono ?_
    rintro e w1 ⟨rfl, hB1⟩
    have hA3 := below_trans hA hB1
    have hT1 := hT0.below hB1
    obtain ⟨j0, j1, j2⟩ := hJ.below hB1 hJ.lt
    clear cC hB1 hT0 hA hI hJ hA1 hA2
    go_wp2_with fail
    go_at_call 8
    refine (cD _).mono ?_
    rintro e w2 ⟨rfl, hB2⟩
    have hA4 := below_trans hA3 hB2
    have hT2 := hT1.below hB2
    clear cD hB2 hT1 hA3
    go_wp2_with (go_at_call 27; refine (wakes_any _ hT2).mono ?_; rintro e w3 ⟨rfl, hB3⟩)
    go_ret
    exact ⟨rfl, below_trans hA4 hB3⟩
set_option maxRecDepth 100000 in
set_option maxHeartbeats 8000000 in
theorem More_4 (P D R R1 L O G x x' q q' y y1 y' : Int) (hR : wrap64 (R + 1) = R1) (w : World) (hT : Tab w)
    (cC : ∀ w, Calls Tryd.prog 8 #[shV P D R] w fun e w' => e = .returned (.int .i64 0) ∧ Below w.heap.size w w')
    (cD : ∀ w, Calls Tryd.prog 8 #[shV P D R1] w fun e w' => e = .returned (.int .i64 0) ∧ Below w.heap.size w w')
    (d1 : decide (L < 0) = false) (d2 : decide (O < L) = false) (d3 : decide (4000 < O) = false)
    (gT : ∀ w, Tab w → Calls Tryd.prog 21 #[shV P D R1, .int .i64 L] w fun e w' => e = .returned (.int .i64 x) ∧ Below w.heap.size w w')
    (gS : ∀ w, Tab w → Calls Tryd.prog 21 #[shV P D R, .int .i64 L] w fun e w' => e = .returned (.int .i64 x) ∧ Below w.heap.size w w')
    (gO : ∀ w, Tab w → Calls Tryd.prog 21 #[shV P D R, .int .i64 O] w fun e w' => e = .returned (.int .i64 x') ∧ Below w.heap.size w w')
    (pT : ∀ w, Tab w → Calls Tryd.prog 23 #[shV P D R1, .int .i64 L, .int .i64 G] w fun e w' => e = .returned (.int .i64 q) ∧ Below w.heap.size w w')
    (pS : ∀ w, Tab w → Calls Tryd.prog 23 #[shV P D R, .int .i64 L, .int .i64 G] w fun e w' => e = .returned (.int .i64 q) ∧ Below w.heap.size w w')
    (pO : ∀ w, Tab w → Calls Tryd.prog 23 #[shV P D R, .int .i64 O, .int .i64 G] w fun e w' => e = .returned (.int .i64 q') ∧ Below w.heap.size w w')
    (nT : ∀ w, Tab w → Calls Tryd.prog 25 #[shV P D R1, .int .i64 L] w fun e w' => e = .returned (.int .i64 y1) ∧ Below w.heap.size w w')
    (nS : ∀ w, Tab w → Calls Tryd.prog 25 #[shV P D R, .int .i64 L] w fun e w' => e = .returned (.int .i64 y) ∧ Below w.heap.size w w')
    (nO : ∀ w, Tab w → Calls Tryd.prog 25 #[shV P D R, .int .i64 O] w fun e w' => e = .returned (.int .i64 y') ∧ Below w.heap.size w w')
    (e1 : IntKind.i64.wrap (y + x) = y1) (f1 : decide (x ≤ x') = true) (f2 : decide (q ≤ q') = true) (f3 : decide (y ≤ y') = true) :
    Calls Tryd.prog 6 #[shV P D R, .int .i64 L, .int .i64 O, .int .i64 G] w fun e w' => e = .returned (.bool true) ∧ Below w.heap.size w w' := by
  have hA1 := below_alloc w (.cells #[.int .i64 P, .int .i64 D, .int .i64 R] 23)
  have hA2 := below_alloc (w.alloc (.cells #[.int .i64 P, .int .i64 D, .int .i64 R] 23)) (.cells #[.int .i64 P, .int .i64 D, .int .i64 R1] 23)
  have hA := below_trans hA1 hA2
  have hI := (InBox.new w P D R 23).below hA2 (by simp)
  have hJ := InBox.new (w.alloc (.cells #[.int .i64 P, .int .i64 D, .int .i64 R] 23)) P D R1 23
  rw [World.size_alloc] at hJ
  have hT0 := hT.below hA
  go_enter Tryd.func6, Tryd.ntmps6
  go_wp2_with fail
  go_at_call 8
  refine (cC _).mono ?_
  rintro e w1 ⟨rfl, hB1⟩
  have hA3 := below_trans hA hB1
  have hT1 := hT0.below hB1
  have hI1 := hI.below hB1 hI.lt
  have hJ1 := hJ.below hB1 hJ.lt
  obtain ⟨j0, j1, j2⟩ := hJ1
  have hJ1 : InBox w1 (w.heap.size + 1) P D R1 := ⟨j0, j1, j2⟩
  clear cC hB1 hT0 hA hI hJ hA1 hA2
  go_wp2_with fail
  go_at_call 8
  refine (cD _).mono ?_
  rintro e w2 ⟨rfl, hB2⟩
  have hA4 := below_trans hA3 hB2
  have hT2 := hT1.below hB2
  have hJ2 := hJ1.below hB2 hJ1.lt
  have hlt := hJ2.lt
  obtain ⟨x0, x1, x2⟩ := hI1.below hB2 hI1.lt
  obtain ⟨z0, z1, z2⟩ := hJ2
  clear cD hB2 hT1 hA3 j0 j1 j2 hI1 hJ1 hR
  go_wp2_with fail
  have hTs : ∀ w'' : World, (w''.cell? ⟨w.heap.size, 0, none⟩ = some (.int .i64 P) ∧ w''.cell? ⟨w.heap.size, 1, none⟩ = some (.int .i64 D) ∧ w''.cell? ⟨w.heap.size, 2, none⟩ = some (.int .i64 R) ∧ w''.cell? ⟨w.heap.size + 1, 0, none⟩ = some (.int .i64 P) ∧ w''.cell? ⟨w.heap.size + 1, 1, none⟩ = some (.int .i64 D) ∧ w''.cell? ⟨w.heap.size + 1, 2, none⟩ = some (.int .i64 R1) ∧ Below w2.heap.size w2 w'') → Tab w'' := fun w'' h => hT2.below h.2.2.2.2.2.2
  go_region_held3 (fun w'' => w''.cell? ⟨w.heap.size, 0, none⟩ = some (.int .i64 P) ∧ w''.cell? ⟨w.heap.size, 1, none⟩ = some (.int .i64 D) ∧ w''.cell? ⟨w.heap.size, 2, none⟩ = some (.int .i64 R) ∧ w''.cell? ⟨w.heap.size + 1, 0, none⟩ = some (.int .i64 P) ∧ w''.cell? ⟨w.heap.size + 1, 1, none⟩ = some (.int .i64 D) ∧ w''.cell? ⟨w.heap.size + 1, 2, none⟩ = some (.int .i64 R1) ∧ Below w2.heap.size w2 w'')
    (first | exact keep6 hlt (by assumption) (by assumption) | exact keep6 hlt (by assumption) (below_drew _) | exact ⟨x0, x1, x2, z0, z1, z2, below_drew _⟩ | exact ⟨x0, x1, x2, z0, z1, z2, Below.refl _ _⟩)
    (first
      | (go_at_call 21; (with_reducible refine (gT _ (hTs _ (by assumption))).mono ?_); rintro e w' ⟨rfl, hB⟩)
      | (go_at_call 21; (with_reducible refine (gS _ (hTs _ (by assumption))).mono ?_); rintro e w' ⟨rfl, hB⟩)
      | (go_at_call 23; (with_reducible refine (pT _ (hTs _ (by assumption))).mono ?_); rintro e w' ⟨rfl, hB⟩)
      | (go_at_call 23; (with_reducible refine (pS _ (hTs _ (by assumption))).mono ?_); rintro e w' ⟨rfl, hB⟩)
      | (go_at_call 25; (with_reducible refine (nT _ (hTs _ (by assumption))).mono ?_); rintro e w' ⟨rfl, hB⟩)
      | (go_at_call 25; (with_reducible refine (nS _ (hTs _ (by assumption))).mono ?_); rintro e w' ⟨rfl, hB⟩))
  rename_i hH
  have hA5 := below_trans hA4 hH.2.2.2.2.2.2
  have hT3 := hTs _ hH
  obtain ⟨y0, y1', y2, k0, k1, k2, hBx⟩ := hH
  have hlt2 := World.block_lt_of_cell? _ _ k0
  clear hTs x0 x1 x2 z0 z1 z2 hT2 hA4 hB hlt gT pT nT hBx
  go_wp2_with fail
  have hTs : ∀ w'' : World, (w''.cell? ⟨w.heap.size, 0, none⟩ = some (.int .i64 P) ∧ w''.cell? ⟨w.heap.size, 1, none⟩ = some (.int .i64 D) ∧ w''.cell? ⟨w.heap.size, 2, none⟩ = some (.int .i64 R) ∧ w''.cell? ⟨w.heap.size + 1, 0, none⟩ = some (.int .i64 P) ∧ w''.cell? ⟨w.heap.size + 1, 1, none⟩ = some (.int .i64 D) ∧ w''.cell? ⟨w.heap.size + 1, 2, none⟩ = some (.int .i64 R1) ∧ Below w'.heap.size w' w'') → Tab w'' := fun w'' h => hT3.below h.2.2.2.2.2.2
  go_region_held3 (fun w'' => w''.cell? ⟨w.heap.size, 0, none⟩ = some (.int .i64 P) ∧ w''.cell? ⟨w.heap.size, 1, none⟩ = some (.int .i64 D) ∧ w''.cell? ⟨w.heap.size, 2, none⟩ = some (.int .i64 R) ∧ w''.cell? ⟨w.heap.size + 1, 0, none⟩ = some (.int .i64 P) ∧ w''.cell? ⟨w.heap.size + 1, 1, none⟩ = some (.int .i64 D) ∧ w''.cell? ⟨w.heap.size + 1, 2, none⟩ = some (.int .i64 R1) ∧ Below w'.heap.size w' w'')
    (first | exact keep6 hlt2 (by assumption) (by assumption) | exact keep6 hlt2 (by assumption) (below_drew _) | exact ⟨y0, y1', y2, k0, k1, k2, below_drew _⟩ | exact ⟨y0, y1', y2, k0, k1, k2, Below.refl _ _⟩)
    (first
      | (go_at_call 21; (with_reducible refine (gO _ (hTs _ (by assumption))).mono ?_); rintro e w' ⟨rfl, hB⟩)
      | (go_at_call 21; (with_reducible refine (gS _ (hTs _ (by assumption))).mono ?_); rintro e w' ⟨rfl, hB⟩)
      | (go_at_call 23; (with_reducible refine (pO _ (hTs _ (by assumption))).mono ?_); rintro e w' ⟨rfl, hB⟩)
      | (go_at_call 23; (with_reducible refine (pS _ (hTs _ (by assumption))).mono ?_); rintro e w' ⟨rfl, hB⟩)
      | (go_at_call 25; (with_reducible refine (nO _ (hTs _ (by assumption))).mono ?_); rintro e w' ⟨rfl, hB⟩)
      | (go_at_call 25; (with_reducible refine (nS _ (hTs _ (by assumption))).mono ?_); rintro e w' ⟨rfl, hB⟩)
      | (go_at_call 27; refine (wakes_any _ (hTs _ (by assumption))).mono ?_; rintro e w' ⟨rfl, hB⟩))
  rename_i hH
  have hA6 := below_trans hA5 hH.2.2.2.2.2.2
  clear hH hTs gS pS nS gO pO nO
  go_wp2
  go_ret
  exact ⟨rfl, hA6⟩

theorem ShapeMore_any (P D R L O G : Int) (w : World) (hT : Tab w) :
    Calls Tryd.prog 6 #[shV P D R, .int .i64 L, .int .i64 O, .int .i64 G] w fun e w' => e = .returned (.bool true) ∧ Below w.heap.size w w' := by
  by_cases h : May P D R
  case neg => exact More_1 P D R _ L O G rfl w hT (fun w => RefCheck_no P D R h w)
  have hr : 0 ≤ R ∧ R ≤ 32 := ⟨h.2.2.1, h.2.2.2.1⟩
  have hw : wrap64 (R + 1) = R + 1 := IntWalk.wrap64_in _ (by omega)
  by_cases h1 : May P D (R + 1)
  case neg => exact More_2 P D R _ L O G hw w hT (fun w => RefCheck_yes P D R h w) (fun w => RefCheck_no P D (R + 1) h1 w)
  by_cases hl : 0 ≤ L ∧ L ≤ O ∧ O ≤ 4000
  case neg =>
    refine More_3 P D R _ L O G hw w hT (fun w => RefCheck_yes P D R h w) (fun w => RefCheck_yes P D (R + 1) h1 w) ?_
    simp only [decide_eq_true_eq, decide_eq_false_iff_not]; omega
  obtain ⟨p, d, r, rfl, rfl, rfl, p2, p22, d0, d255, r32, dr⟩ := may_nat h
  obtain ⟨l, rfl⟩ : ∃ l : Nat, L = l := ⟨L.toNat, by omega⟩
  obtain ⟨o, rfl⟩ : ∃ o : Nat, O = o := ⟨O.toNat, by omega⟩
  have ml := pieces_le l p (by omega)
  have mo := pieces_le o p (by omega)
  have mm := pieces_mono l o p (by omega)
  have cm := cnt_mono (pieces l p) (pieces o p) d mm
  have cl := cnt_le (pieces l p) d d0
  have co := cnt_le (pieces o p) d d0
  have pm := pcs_mono (pieces l p) (pieces o p) d G mm
  have s1 := sumW_all r (pieces l p) d d0 (by omega) (by omega)
  have s2 := sumW_all (r + 1) (pieces l p) d d0 (by omega) (by omega)
  have s3 := sumW_all r (pieces o p) d d0 (by omega) (by omega)
  have q1 : cntOf (pieces l p) d * r ≤ 4000 * 32 := Nat.mul_le_mul (by omega) (by omega)
  have q3 : cntOf (pieces l p) d * r ≤ cntOf (pieces o p) d * r := Nat.mul_le_mul_right _ cm
  rw [Nat.mul_add, Nat.mul_one] at s2
  refine More_4 p d r ((r : Int) + 1) l o G (cntOf (pieces l p) d) (cntOf (pieces o p) d) (pcs (pieces l p) d G) (pcs (pieces o p) d G) (sumW r (grp (pieces l p) d)) (sumW (r + 1) (grp (pieces l p) d)) (sumW r (grp (pieces o p) d)) hw w hT
    (fun w => RefCheck_yes p d r h w) (fun w => RefCheck_yes p d _ h1 w) (decide_eq_false (by omega)) (decide_eq_false (by omega)) (decide_eq_false (by omega))
    (fun w hT => Groups_yes p d (r + 1) l _ h1 (by omega) rfl w hT) (fun w hT => Groups_yes p d r l _ h (by omega) rfl w hT) (fun w hT => Groups_yes p d r o _ h (by omega) rfl w hT)
    (fun w hT => Pieces_yes p d (r + 1) l _ G h1 (by omega) rfl w hT) (fun w hT => Pieces_yes p d r l _ G h (by omega) rfl w hT) (fun w hT => Pieces_yes p d r o _ G h (by omega) rfl w hT)
    (fun w hT => Count_yes p d (r + 1) l _ h1 (by omega) rfl w hT) (fun w hT => Count_yes p d r l _ h (by omega) rfl w hT) (fun w hT => Count_yes p d r o _ h (by omega) rfl w hT)
    ?_ (decide_eq_true (by omega)) (decide_eq_true (by omega)) (decide_eq_true (by omega))
  rw [s1, s2, IntWalk.i64_in _ (by omega)]
  omega
end Go.Proofs.YtjfhbhidnlgabaaDoor
