/- Contracts of the document's own answers for shapes: Groups, Pieces, Count. -/
import Derived.Test.YtjfhbhidnlgabaaDoorShO
namespace Go.Proofs.YtjfhbhidnlgabaaDoor
open Go.RowKit Go.Shelf
attribute [local go_sem] Oper.semAt_some run_store_func

theorem up_is (a b : Nat) (ha : a ≤ 100000) (hb : 0 < b) (hb2 : b ≤ 100000) (w : World) :
    Calls Tryd.prog 44 #[.int .i64 a, .int .i64 b] w fun e w' => e = .returned (.int .i64 (((a + b - 1) / b : Nat) : Int)) ∧ w = w' := by
  have ed : ((a : Int) + b - 1) / (b : Int) = (((a + b - 1) / b : Nat) : Int) := by
    rw [show ((a : Int) + b - 1) = ((a + b - 1 : Nat) : Int) by omega]; norm_cast
  have ed2 : ((a : Int) + b - 1).tdiv (b : Int) = (((a + b - 1) / b : Nat) : Int) := by
    rw [Int.tdiv_eq_ediv_of_nonneg (by omega)]; exact ed
  have ez : ((b : Int) == 0) = false := by rw [beq_eq_false_iff_ne]; omega
  have ez' : (b == 0) = false := by rw [beq_eq_false_iff_ne]; omega
  have hq : (a + b - 1) / b ≤ 200000 := Nat.le_trans (Nat.div_le_self _ _) (by omega)
  generalize (a + b - 1) / b = q at *
  go_enter Tryd.func44, Tryd.ntmps44
  go_wp2
  go_ret
  exact ⟨rfl, rfl⟩
theorem RCount_num (m c r : Nat) (hm : m ≤ 4000) (hc : c ≤ 4000) (hr : r ≤ 300) : IntKind.i64.wrap ((c : Int) * r) = ((c * r : Nat) : Int) ∧ IntKind.i64.wrap ((m : Int) + ((c * r : Nat) : Int)) = ((m + c * r : Nat) : Int) := by
  have h : c * r ≤ 4000 * 300 := Nat.mul_le_mul hc hr
  have e : (c : Int) * r = ((c * r : Nat) : Int) := (Int.natCast_mul c r).symm
  rw [e]
  generalize c * r = x at *
  exact ⟨IntWalk.i64_in _ (by omega), by rw [IntWalk.i64_in _ (by omega)]; omega⟩
theorem RPieces_num (m g d : Nat) (hm : m ≤ 4000) (h : g * d < m) : IntKind.i64.wrap ((g : Int) * d) = ((g * d : Nat) : Int) ∧ IntKind.i64.wrap ((m : Int) - ((g * d : Nat) : Int)) = (m : Int) - ((g * d : Nat) : Int) ∧ 0 ≤ (m : Int) - ((g * d : Nat) : Int) := by
  have e : (g : Int) * d = ((g * d : Nat) : Int) := (Int.natCast_mul g d).symm
  rw [e]
  generalize g * d = x at *
  exact ⟨IntWalk.i64_in _ (by omega), IntWalk.i64_in _ (by omega), by omega⟩
set_option maxRecDepth 100000 in
theorem RMay_yes (P D R L : Int) (h : May P D R) (h0 : 0 ≤ L) (h1 : L ≤ 4000) (w : World) :
    Calls Tryd.prog 43 #[shV P D R, .int .i64 L] w fun e w' => e = .returned (.bool true) ∧ Below w.heap.size w w' := by
  have hA := below_alloc w (.cells #[.int .i64 P, .int .i64 D, .int .i64 R] 23)
  have cC := fun w => RefCheck_yes P D R h w
  have d1 : decide (0 ≤ L) = true := decide_eq_true h0
  have d2 : decide (L ≤ 4000) = true := decide_eq_true h1
  clear h
  go_enter Tryd.func43, Tryd.ntmps43
  go_wp2_with fail
  go_at_call 8
  refine (cC _).mono ?_
  rintro e w1 ⟨rfl, hB1⟩
  go_wp2
  go_ret
  exact ⟨rfl, below_trans hA hB1⟩
set_option maxRecDepth 100000 in
theorem RMay_no (P D R L : Int) (h : ¬ (May P D R ∧ 0 ≤ L ∧ L ≤ 4000)) (w : World) :
    Calls Tryd.prog 43 #[shV P D R, .int .i64 L] w fun e w' => e = .returned (.bool false) ∧ Below w.heap.size w w' := by
  have hA := below_alloc w (.cells #[.int .i64 P, .int .i64 D, .int .i64 R] 23)
  by_cases hm : May P D R
  · have cC := fun w => RefCheck_yes P D R hm w
    have hc : decide (0 ≤ L) = false ∨ (decide (0 ≤ L) = true ∧ decide (L ≤ 4000) = false) := by
      have : ¬ (0 ≤ L ∧ L ≤ 4000) := fun hl => h ⟨hm, hl⟩
      simp only [decide_eq_true_eq, decide_eq_false_iff_not]; omega
    clear h hm
    rcases hc with c1 | ⟨c1, c2⟩
    all_goals
      go_enter Tryd.func43, Tryd.ntmps43
      go_wp2_with fail
      go_at_call 8
      refine (cC _).mono ?_
      rintro e w1 ⟨rfl, hB1⟩
      go_wp2
      go_ret
      exact ⟨rfl, below_trans hA hB1⟩
  · have cC := fun w => RefCheck_no P D R hm w
    clear h hm
    go_enter Tryd.func43, Tryd.ntmps43
    go_wp2_with fail
    go_at_call 8
    refine (cC _).mono ?_
    rintro e w1 ⟨rfl, hB1⟩
    go_wp2
    go_ret
    exact ⟨rfl, below_trans hA hB1⟩

set_option maxRecDepth 100000 in
theorem RGroups_no (P D R L : Int) (h : ¬ (May P D R ∧ 0 ≤ L ∧ L ≤ 4000)) (w : World) :
    Calls Tryd.prog 22 #[shV P D R, .int .i64 L] w fun e w' => e = .returned (.int .i64 (-1)) ∧ Below w.heap.size w w' := by
  have hA := below_alloc w (.cells #[.int .i64 P, .int .i64 D, .int .i64 R] 23)
  have cC := fun w => RMay_no P D R L h w
  clear h
  go_enter Tryd.func22, Tryd.ntmps22
  go_wp2_with fail
  go_at_call 43
  refine (cC _).mono ?_
  rintro e w1 ⟨rfl, hB1⟩
  go_wp2
  go_ret
  exact ⟨rfl, below_trans hA hB1⟩

set_option maxRecDepth 100000 in
theorem RPieces_no (P D R L G : Int) (h : ¬ (May P D R ∧ 0 ≤ L ∧ L ≤ 4000)) (w : World) :
    Calls Tryd.prog 24 #[shV P D R, .int .i64 L, .int .i64 G] w fun e w' => e = .returned (.int .i64 (-1)) ∧ Below w.heap.size w w' := by
  have hA := below_alloc w (.cells #[.int .i64 P, .int .i64 D, .int .i64 R] 23)
  have cC := fun w => RMay_no P D R L h w
  clear h
  go_enter Tryd.func24, Tryd.ntmps24
  go_wp2_with fail
  go_at_call 43
  refine (cC _).mono ?_
  rintro e w1 ⟨rfl, hB1⟩
  go_wp2
  go_ret
  exact ⟨rfl, below_trans hA hB1⟩

set_option maxRecDepth 100000 in
theorem RCount_no (P D R L : Int) (h : ¬ (May P D R ∧ 0 ≤ L ∧ L ≤ 4000)) (w : World) :
    Calls Tryd.prog 26 #[shV P D R, .int .i64 L] w fun e w' => e = .returned (.int .i64 (-1)) ∧ Below w.heap.size w w' := by
  have hA := below_alloc w (.cells #[.int .i64 P, .int .i64 D, .int .i64 R] 23)
  have cC := fun w => RMay_no P D R L h w
  clear h
  go_enter Tryd.func26, Tryd.ntmps26
  go_wp2_with fail
  go_at_call 43
  refine (cC _).mono ?_
  rintro e w1 ⟨rfl, hB1⟩
  go_wp2
  go_ret
  exact ⟨rfl, below_trans hA hB1⟩

set_option maxRecDepth 100000 in
set_option maxHeartbeats 1000000 in
theorem RGroups_yes (p d r n : Nat) (h : May p d r) (hn : n ≤ 4000) (w : World) :
    Calls Tryd.prog 22 #[shV p d r, .int .i64 n] w fun e w' => e = .returned (.int .i64 (cntOf (pieces n p) d)) ∧ Below w.heap.size w w' := by
  have hA := below_alloc w (.cells #[.int .i64 p, .int .i64 d, .int .i64 r] 23)
  have hI := InBox.new w p d r 23
  have cM := fun w => RMay_yes p d r n h (by omega) (by omega) w
  obtain ⟨hp, hp2, hd, hd2, hr2, _⟩ := nat_may h
  have ml := pieces_le n p hp
  have u1 := fun w => up_is n p (by omega) hp (by omega) w
  have u2 := fun w => up_is (pieces n p) d (by omega) hd (by omega) w
  rw [show (n + p - 1) / p = pieces n p from rfl] at u1
  rw [show (pieces n p + d - 1) / d = cntOf (pieces n p) d from rfl] at u2
  generalize cntOf (pieces n p) d = c at *
  generalize pieces n p = m at *
  go_enter Tryd.func22, Tryd.ntmps22
  go_wp2_with fail
  go_at_call 43
  refine (cM _).mono ?_
  rintro e w1 ⟨rfl, hB1⟩
  have hA1 := below_trans hA hB1
  have hI1 := hI.below hB1 hI.lt
  have hlt := hI1.lt
  obtain ⟨x0, x1, x2⟩ := hI1
  clear cM hI hA hB1 h
  go_wp2_with fail
  go_region_held3 (fun w' => w'.cell? ⟨w.heap.size, 0, none⟩ = some (.int .i64 p) ∧ w'.cell? ⟨w.heap.size, 1, none⟩ = some (.int .i64 d) ∧ w'.cell? ⟨w.heap.size, 2, none⟩ = some (.int .i64 r) ∧ Below w1.heap.size w1 w')
    (first | assumption | exact keep3 hlt (by assumption) (by assumption) | exact keep3 hlt (by assumption) (below_drew _) | exact ⟨x0, x1, x2, below_drew _⟩ | exact ⟨x0, x1, x2, Below.refl _ _⟩)
    (first
      | (go_at_call 44; (with_reducible refine (u1 _).mono ?_); rintro e w' ⟨rfl, rfl⟩)
      | (go_at_call 44; (with_reducible refine (u2 _).mono ?_); rintro e w' ⟨rfl, rfl⟩))
  all_goals
    rename_i hH
    have hBw := below_trans hA1 hH.2.2.2
    clear hH u1 u2
    go_wp2
    go_ret
    exact ⟨rfl, hBw⟩

set_option maxRecDepth 100000 in
set_option maxHeartbeats 1000000 in
theorem RCount_yes (p d r n : Nat) (h : May p d r) (hn : n ≤ 4000) (w : World) :
    Calls Tryd.prog 26 #[shV p d r, .int .i64 n] w fun e w' => e = .returned (.int .i64 ((pieces n p + cntOf (pieces n p) d * r : Nat) : Int)) ∧ Below w.heap.size w w' := by
  have hA := below_alloc w (.cells #[.int .i64 p, .int .i64 d, .int .i64 r] 23)
  have hI := InBox.new w p d r 23
  have cM := fun w => RMay_yes p d r n h (by omega) (by omega) w
  obtain ⟨hp, hp2, hd, hd2, hr2, _⟩ := nat_may h
  have ml := pieces_le n p hp
  have cl := cnt_le (pieces n p) d hd
  have u1 := fun w => up_is n p (by omega) hp (by omega) w
  have g1 := fun w => RGroups_yes p d r n h hn w
  rw [show (n + p - 1) / p = pieces n p from rfl] at u1
  generalize cntOf (pieces n p) d = c at *
  generalize pieces n p = m at *
  obtain ⟨e1, e2⟩ := RCount_num m c r (by omega) (by omega) (by omega)
  generalize m + c * r = y at *
  generalize c * r = z at *
  go_enter Tryd.func26, Tryd.ntmps26
  go_wp2_with fail
  go_at_call 43
  refine (cM _).mono ?_
  rintro e w1 ⟨rfl, hB1⟩
  have hA1 := below_trans hA hB1
  have hI1 := hI.below hB1 hI.lt
  have hlt := hI1.lt
  obtain ⟨x0, x1, x2⟩ := hI1
  clear cM hI hA hB1 h
  go_wp2_with fail
  go_region_held3 (fun w' => w'.cell? ⟨w.heap.size, 0, none⟩ = some (.int .i64 p) ∧ w'.cell? ⟨w.heap.size, 1, none⟩ = some (.int .i64 d) ∧ w'.cell? ⟨w.heap.size, 2, none⟩ = some (.int .i64 r) ∧ Below w1.heap.size w1 w')
    (first | assumption | exact keep3 hlt (by assumption) (by assumption) | exact keep3 hlt (by assumption) (below_drew _) | exact ⟨x0, x1, x2, below_drew _⟩ | exact ⟨x0, x1, x2, Below.refl _ _⟩)
    (first
      | (go_at_call 44; (with_reducible refine (u1 _).mono ?_); rintro e w' ⟨rfl, rfl⟩)
      | (go_at_call 22; (with_reducible refine (g1 _).mono ?_); rintro e w' ⟨rfl, hB⟩))
  all_goals
    rename_i hH
    have hBw := below_trans hA1 hH.2.2.2
    clear hH u1 g1
    go_wp2
    go_ret
    exact ⟨rfl, hBw⟩

set_option maxRecDepth 100000 in
set_option maxHeartbeats 1000000 in
theorem RPieces_yes (p d r n : Nat) (G : Int) (h : May p d r) (hn : n ≤ 4000) (w : World) :
    Calls Tryd.prog 24 #[shV p d r, .int .i64 n, .int .i64 G] w fun e w' => e = .returned (.int .i64 (pcs (pieces n p) d G)) ∧ Below w.heap.size w w' := by
  have hA := below_alloc w (.cells #[.int .i64 p, .int .i64 d, .int .i64 r] 23)
  have hI := InBox.new w p d r 23
  have cM := fun w => RMay_yes p d r n h (by omega) (by omega) w
  obtain ⟨hp, hp2, hd, hd2, hr2, _⟩ := nat_may h
  have ml := pieces_le n p hp
  have cl := cnt_le (pieces n p) d hd
  have ci := fun j => cnt_iff (pieces n p) d j hd
  have u1 := fun w => up_is n p (by omega) hp (by omega) w
  have g1 := fun w => RGroups_yes p d r n h hn w
  rw [show (n + p - 1) / p = pieces n p from rfl] at u1
  have hz : (G < 0 ∧ pcs (pieces n p) d G = 0) ∨ (0 ≤ G ∧ (cntOf (pieces n p) d : Int) ≤ G ∧ pcs (pieces n p) d G = 0) ∨ (∃ g : Nat, G = g ∧ g < cntOf (pieces n p) d ∧ g * d < pieces n p ∧ pcs (pieces n p) d G = min (pieces n p - g * d) d) := by
    unfold pcs
    rcases Int.lt_or_le G 0 with h1 | h1
    · exact .inl ⟨h1, if_neg (by omega)⟩
    · obtain ⟨g, rfl⟩ : ∃ g : Nat, G = g := ⟨G.toNat, by omega⟩
      rcases Nat.lt_or_ge g (cntOf (pieces n p) d) with h2 | h2
      · exact .inr (.inr ⟨g, rfl, h2, (ci g).1 h2, by rw [if_pos ⟨h1, by simpa using h2⟩]; simp⟩)
      · exact .inr (.inl ⟨h1, by omega, if_neg (by simp; omega)⟩)
  generalize pcs (pieces n p) d G = q at *
  generalize cntOf (pieces n p) d = c at *
  generalize pieces n p = m at *
  clear ci
  rcases hz with ⟨h1, rfl⟩ | ⟨h1, h2, rfl⟩ | ⟨g, rfl, h1, h2, h3⟩
  · have d1 : decide (G < 0) = true := decide_eq_true h1
    clear h1
    go_enter Tryd.func24, Tryd.ntmps24
    go_wp2_with fail
    go_at_call 43
    refine (cM _).mono ?_
    rintro e w1 ⟨rfl, hB1⟩
    have hA1 := below_trans hA hB1
    have hI1 := hI.below hB1 hI.lt
    have hlt := hI1.lt
    obtain ⟨x0, x1, x2⟩ := hI1
    clear cM hI hA hB1 h
    go_wp2
    go_ret
    exact ⟨rfl, hA1⟩
  · have d1 : decide (G < 0) = false := decide_eq_false (by omega)
    have d2 : decide ((c : Int) ≤ G) = true := decide_eq_true h2
    clear h1 h2
    go_enter Tryd.func24, Tryd.ntmps24
    go_wp2_with fail
    go_at_call 43
    refine (cM _).mono ?_
    rintro e w1 ⟨rfl, hB1⟩
    have hA1 := below_trans hA hB1
    have hI1 := hI.below hB1 hI.lt
    have hlt := hI1.lt
    obtain ⟨x0, x1, x2⟩ := hI1
    clear cM hI hA hB1 h
    go_wp2_with fail
    go_at_call 22
    refine (g1 _).mono ?_
    rintro e w2 ⟨rfl, hB2⟩
    go_wp2
    go_ret
    exact ⟨rfl, below_trans hA1 hB2⟩
  · have d1 : decide ((g : Int) < 0) = false := decide_eq_false (by omega)
    have d2 : decide ((c : Int) ≤ (g : Int)) = false := decide_eq_false (by omega)
    have d2' : decide (c ≤ g) = false := decide_eq_false (by omega)
    obtain ⟨e1, e2, e3⟩ := RPieces_num m g d (by omega) h2
    have Hq := Lib.hid (show (q : Int) = min (d : Int) ((m : Int) - ((g * d : Nat) : Int)) by generalize g * d = x at *; omega)
    generalize g * d = x at *
    clear h1 h2 h3
    go_enter Tryd.func24, Tryd.ntmps24
    go_wp2_with fail
    go_at_call 43
    refine (cM _).mono ?_
    rintro e w1 ⟨rfl, hB1⟩
    have hA1 := below_trans hA hB1
    have hI1 := hI.below hB1 hI.lt
    have hlt := hI1.lt
    obtain ⟨x0, x1, x2⟩ := hI1
    clear cM hI hA hB1 h
    go_wp2_with fail
    go_at_call 22
    refine (g1 _).mono ?_
    rintro e w2 ⟨rfl, hB2⟩
    have hA2 := below_trans hA1 hB2
    have hlt2 : w.heap.size < w2.heap.size := by have := hB2.size; omega
    have hI2 := InBox.below (P := p) (D := d) (R := r) ⟨x0, x1, x2⟩ hB2 hlt
    clear x0 x1 x2 hB2
    obtain ⟨x0, x1, x2⟩ := hI2
    go_wp2_with fail
    go_region_held3 (fun w' => w'.cell? ⟨w.heap.size, 0, none⟩ = some (.int .i64 p) ∧ w'.cell? ⟨w.heap.size, 1, none⟩ = some (.int .i64 d) ∧ w'.cell? ⟨w.heap.size, 2, none⟩ = some (.int .i64 r) ∧ Below w2.heap.size w2 w')
      (first | assumption | exact keep3 hlt2 (by assumption) (by assumption) | exact keep3 hlt2 (by assumption) (below_drew _) | exact ⟨x0, x1, x2, below_drew _⟩ | exact ⟨x0, x1, x2, Below.refl _ _⟩)
      (first
        | (go_at_call 44; (with_reducible refine (u1 _).mono ?_); rintro e w' ⟨rfl, rfl⟩))
    all_goals
      rename_i hH
      have hBw := below_trans hA2 hH.2.2.2
      clear hH u1 g1
      go_wp2
      go_ret
      exact ⟨by rw [Hq.out]; rfl, hBw⟩
end Go.Proofs.YtjfhbhidnlgabaaDoor
