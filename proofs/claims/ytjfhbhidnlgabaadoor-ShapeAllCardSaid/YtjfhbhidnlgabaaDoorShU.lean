/- The walk of ShapeAll. -/
import Derived.Test.YtjfhbhidnlgabaaDoorShY
namespace Go.Proofs.YtjfhbhidnlgabaaDoor
open Go.RowKit Go.Shelf
attribute [local go_sem] Oper.semAt_some run_store_func

set_option maxRecDepth 100000 in
set_option maxHeartbeats 4000000 in
theorem All_1 (P D R L : Int) (w : World) (hT : Tab w)
    (cC : ∀ w, Calls Tryd.prog 8 #[shV P D R] w fun e w' => e = .returned (.int .i64 180) ∧ Below w.heap.size w w')
    (nS : ∀ w, Tab w → Calls Tryd.prog 25 #[shV P D R, .int .i64 L] w fun e w' => e = .returned (.int .i64 (-1)) ∧ Below w.heap.size w w')
    (gS : ∀ w, Tab w → Calls Tryd.prog 21 #[shV P D R, .int .i64 L] w fun e w' => e = .returned (.int .i64 (-1)) ∧ Below w.heap.size w w') :
    Calls Tryd.prog 4 #[shV P D R, .int .i64 L] w fun e w' => e = .returned (.bool true) ∧ Below w.heap.size w w' := by
  have hA := below_alloc w (.cells #[.int .i64 P, .int .i64 D, .int .i64 R] 23)
  have hI := InBox.new w P D R 23
  have hT0 := hT.below hA
  go_enter Tryd.func4, Tryd.ntmps4
  go_wp2_with fail
  go_at_call 8
  refine (cC _).mono ?_
  rintro e w1 ⟨rfl, hB1⟩
  have hA1 := below_trans hA hB1
  have hT1 := hT0.below hB1
  have hI1 := hI.below hB1 hI.lt
  obtain ⟨x0, x1, x2⟩ := hI1
  have hI1 : InBox w1 w.heap.size P D R := ⟨x0, x1, x2⟩
  clear cC
  go_wp2_with fail
  go_at_call 25
  refine (nS _ hT1).mono ?_
  rintro e w2 ⟨rfl, hB2⟩
  have hA2 := below_trans hA1 hB2
  have hT2 := hT1.below hB2
  have hI2 := hI1.below hB2 hI1.lt
  clear x0 x1 x2
  obtain ⟨x0, x1, x2⟩ := hI2
  go_wp2_with fail
  go_at_call 21
  refine (gS _ hT2).mono ?_
  rintro e w3 ⟨rfl, hB3⟩
  have hA3 := below_trans hA2 hB3
  have hT3 := hT2.below hB3
  clear x0 x1 x2 nS gS hI hI1
  go_wp2_with (go_at_call 27; refine (wakes_any _ hT3).mono ?_; rintro e w5 ⟨rfl, hB5⟩)
  go_ret
  exact ⟨rfl, below_trans hA3 hB5⟩
set_option maxRecDepth 100000 in
set_option maxHeartbeats 4000000 in
theorem All_2 (P D R L : Int) (w : World) (hT : Tab w) (hc : decide (L < 0) = true ∨ (decide (L < 0) = false ∧ decide (4000 < L) = true))
    (cC : ∀ w, Calls Tryd.prog 8 #[shV P D R] w fun e w' => e = .returned (.int .i64 0) ∧ Below w.heap.size w w')
    (nS : ∀ w, Tab w → Calls Tryd.prog 25 #[shV P D R, .int .i64 L] w fun e w' => e = .returned (.int .i64 (-1)) ∧ Below w.heap.size w w')
    (gS : ∀ w, Tab w → Calls Tryd.prog 21 #[shV P D R, .int .i64 L] w fun e w' => e = .returned (.int .i64 (-1)) ∧ Below w.heap.size w w') :
    Calls Tryd.prog 4 #[shV P D R, .int .i64 L] w fun e w' => e = .returned (.bool true) ∧ Below w.heap.size w w' := by
  have hA := below_alloc w (.cells #[.int .i64 P, .int .i64 D, .int .i64 R] 23)
  have hI := InBox.new w P D R 23
  have hT0 := hT.below hA
  rcases hc with c1 | ⟨c1, c2⟩
  all_goals
    go_enter Tryd.func4, Tryd.ntmps4
    go_wp2_with fail
    go_at_call 8
    refine (cC _).mono ?_
    rintro e w1 ⟨rfl, hB1⟩
    have hA1 := below_trans hA hB1
    have hT1 := hT0.below hB1
    have hI1 := hI.below hB1 hI.lt
    obtain ⟨x0, x1, x2⟩ := hI1
    have hI1 : InBox w1 w.heap.size P D R := ⟨x0, x1, x2⟩
    clear cC
    go_wp2_with fail
    go_at_call 25
    refine (nS _ hT1).mono ?_
    rintro e w2 ⟨rfl, hB2⟩
    have hA2 := below_trans hA1 hB2
    have hT2 := hT1.below hB2
    have hI2 := hI1.below hB2 hI1.lt
    clear x0 x1 x2
    obtain ⟨x0, x1, x2⟩ := hI2
    go_wp2_with fail
    go_at_call 21
    refine (gS _ hT2).mono ?_
    rintro e w3 ⟨rfl, hB3⟩
    have hA3 := below_trans hA2 hB3
    have hT3 := hT2.below hB3
    clear x0 x1 x2 nS gS hI hI1
    go_wp2_with (go_at_call 27; refine (wakes_any _ hT3).mono ?_; rintro e w5 ⟨rfl, hB5⟩)
    go_ret
    exact ⟨rfl, below_trans hA3 hB5⟩

theorem wrap_mul (a b : Nat) (h : a * b ≤ 2000000) : IntKind.i64.wrap ((a : Int) * b) = ((a * b : Nat) : Int) ∧ wrap64 ((a : Int) * b) = ((a * b : Nat) : Int) := by
  have e : (a : Int) * b = ((a * b : Nat) : Int) := (Int.natCast_mul a b).symm
  rw [e]
  generalize a * b = x at *
  exact ⟨IntWalk.i64_in _ (by omega), IntWalk.wrap64_in _ (by omega)⟩
theorem wrap_sum (m x y : Nat) (h : m + x ≤ 2000000) (hy : y = m + x) : IntKind.i64.wrap ((m : Int) + ((x : Nat) : Int)) = (y : Int) := by
  subst hy
  rw [IntWalk.i64_in _ (by omega)]; omega
/-- Numbers that end the law: what the walk asks of all pieces but one. -/
theorem fin_facts (n m p : Nat) (hp : p ≤ 22) (hm : m ≤ 4000) (hcase : (n = 0 ∧ m = 0) ∨ (0 < n ∧ 0 < m ∧ (m - 1) * p < n)) :
    ∃ q : Int, IntKind.i64.wrap ((m : Int) - 1) = q ∧ ∃ z : Int, IntKind.i64.wrap (q * p) = z ∧ wrap64 (q * p) = z ∧ ((decide (0 < (n : Int)) = false ∧ decide (0 < n) = false ∧ ((n : Int) == 0) = true ∧ (n == 0) = true ∧ ((m : Int) == 0) = true ∧ (m == 0) = true ∧ ((m : Int) != 0) = false ∧ (m != 0) = false) ∨
      (decide (0 < (n : Int)) = true ∧ decide (0 < n) = true ∧ ((n : Int) == 0) = false ∧ (n == 0) = false ∧ decide ((n : Int) ≤ z) = false)) := by
  rcases hcase with ⟨rfl, rfl⟩ | ⟨h1, h2, h3⟩
  · refine ⟨-1, by decide, -(p : Int), ?_, ?_, .inl ⟨by decide, by decide, by decide, by decide, by decide, by decide, by decide, by decide⟩⟩
    · rw [show (-1 : Int) * p = -(p : Int) by omega, IntWalk.i64_in _ (by omega)]
    · rw [show (-1 : Int) * p = -(p : Int) by omega, IntWalk.wrap64_in _ (by omega)]
  · have hq : (m - 1) * p ≤ 4000 * 22 := Nat.mul_le_mul (by omega) hp
    obtain ⟨w1, w2⟩ := wrap_mul (m - 1) p (by omega)
    refine ⟨((m - 1 : Nat) : Int), by rw [IntWalk.i64_in _ (by omega)]; omega, (((m - 1) * p : Nat) : Int), w1, w2, .inr ?_⟩
    generalize (m - 1) * p = x at *
    refine ⟨decide_eq_true (by omega), decide_eq_true h1, by rw [beq_eq_false_iff_ne]; omega, by rw [beq_eq_false_iff_ne]; omega, decide_eq_false (by omega)⟩

/-- What a round of the law's loop is told. -/
def Rd (p d r n c : Nat) (al : Nat → Nat) (j : Nat) : Prop := ∃ k : Nat, 1 ≤ k ∧ k ≤ d ∧ (k < d → j + 1 = c) ∧ al (j + 1) = al j + k ∧
  ∀ w, Tab w → Calls Tryd.prog 23 #[shV p d r, .int .i64 n, .int .i64 j] w fun e w' => e = .returned (.int .i64 k) ∧ Below w.heap.size w w'
set_option maxRecDepth 100000 in
set_option maxHeartbeats 8000000 in
theorem All_3 (p d r n m c y : Nat) (al : Nat → Nat) (w : World) (hT : Tab w) (hn : n ≤ 4000) (hp : p ≤ 22) (hd : d ≤ 255) (hdr : d + r ≤ 255) (hc : c ≤ 4000) (hm : m ≤ 4000)
    (h0 : al 0 = 0) (hal : al c = m) (hle : ∀ j, j ≤ c → al j ≤ 4000) (hR : ∀ j, j < c → Rd p d r n c al j)
    (hold : n ≤ m * p) (hless : 0 < n → (m - 1) * p < n ∧ 0 < m) (hnone : n = 0 → m = 0) (hy : y = m + c * r)
    (cC : ∀ w, Calls Tryd.prog 8 #[shV p d r] w fun e w' => e = .returned (.int .i64 0) ∧ Below w.heap.size w w')
    (gS : ∀ w, Tab w → Calls Tryd.prog 21 #[shV p d r, .int .i64 n] w fun e w' => e = .returned (.int .i64 c) ∧ Below w.heap.size w w')
    (nS : ∀ w, Tab w → Calls Tryd.prog 25 #[shV p d r, .int .i64 n] w fun e w' => e = .returned (.int .i64 y) ∧ Below w.heap.size w w')
    (pN : ∀ w, Tab w → Calls Tryd.prog 23 #[shV p d r, .int .i64 n, .int .i64 c] w fun e w' => e = .returned (.int .i64 0) ∧ Below w.heap.size w w')
    (pM : ∀ w, Tab w → Calls Tryd.prog 23 #[shV p d r, .int .i64 n, .int .i64 (-1)] w fun e w' => e = .returned (.int .i64 0) ∧ Below w.heap.size w w') :
    Calls Tryd.prog 4 #[shV p d r, .int .i64 n] w fun e w' => e = .returned (.bool true) ∧ Below w.heap.size w w' := by
  have hA := below_alloc w (.cells #[.int .i64 p, .int .i64 d, .int .i64 r] 23)
  have hI := InBox.new w p d r 23
  have hT0 := hT.below hA
  have Hy := Lib.hid hy
  have H0 := Lib.hid h0
  have Hal := Lib.hid hal
  have Hle := Lib.hid hle
  have HR := Lib.hid hR
  have Hold := Lib.hid hold
  have Hless := Lib.hid hless
  have Hnone := Lib.hid hnone
  clear hy h0 hal hle hR hold hless hnone
  have d1 : decide ((n : Int) < 0) = false := decide_eq_false (by omega)
  have d2 : decide (4000 < (n : Int)) = false := decide_eq_false (by omega)
  go_enter Tryd.func4, Tryd.ntmps4
  go_wp2_with fail
  go_at_call 8
  refine (cC _).mono ?_
  rintro e w1 ⟨rfl, hB1⟩
  have hA1 := below_trans hA hB1
  have hT1 := hT0.below hB1
  have hI1 := hI.below hB1 hI.lt
  obtain ⟨x0, x1, x2⟩ := hI1
  have hI1 : InBox w1 w.heap.size p d r := ⟨x0, x1, x2⟩
  clear cC hB1 hI hA hT0
  go_wp2_with fail
  go_at_call 21
  refine (gS _ hT1).mono ?_
  rintro e w2 ⟨rfl, hB2⟩
  have hA2 := below_trans hA1 hB2
  have hT2 := hT1.below hB2
  have hI2 := hI1.below hB2 hI1.lt
  clear x0 x1 x2 gS hB2 hI1 hA1 hT1
  go_wp2_with fail
  have hlt := hI2.lt
  go_loopw [6, 7] (fun a g wr => ∃ j : Nat, j ≤ c ∧ g = .int .i64 j ∧ a = .int .i64 (al j : Nat) ∧ Below w2.heap.size w2 wr) (fun _ g _ => c - (intOf g).toNat)
  case atStart => exact ⟨0, Nat.zero_le _, rfl, by rw [H0.out]; rfl, Below.refl _ _⟩
  case round =>
    obtain ⟨j, hj, rfl, rfl, hBr⟩ := hrel
    have hIr := hI2.below hBr hlt
    have hTr := hT2.below hBr
    by_cases hlj : j < c
    · obtain ⟨k, k1, kd, kl, ka, hk⟩ := HR.out j hlj
      have Ka := Lib.hid ka
      have la := Hle.out j hj
      obtain ⟨x0, x1, x2⟩ := hIr
      have hIr : InBox wr w.heap.size p d r := ⟨x0, x1, x2⟩
      have f1 : decide ((k : Int) < 1) = false := decide_eq_false (by omega)
      have f2 : decide ((d : Int) < k) = false := decide_eq_false (by omega)
      have f2' : decide (d < k) = false := decide_eq_false (by omega)
      have f3 : decide (255 < (k : Int) + r) = false := decide_eq_false (by omega)
      have f4 : (decide (k < d) = false) ∨ (decide (k < d) = true ∧ decide ((j : Int) + 1 < c) = false) := by
        simp only [decide_eq_true_eq, decide_eq_false_iff_not]; omega
      generalize al j = a at *
      clear ka kl
      rcases f4 with f4 | ⟨f4, f5⟩
      all_goals
        go_wp2_with fail
        go_at_call 23
        refine (hk _ hTr).mono ?_
        rintro e w3 ⟨rfl, hB3⟩
        clear x0 x1 x2 hk
        obtain ⟨x0, x1, x2⟩ := hIr.below hB3 hIr.lt
        go_wp2
        go_roundw
        case rel => exact ⟨j + 1, by omega, by go_num, by rw [Ka.out]; go_num, below_trans hBr hB3⟩
        case measure => simp [intOf]; omega
    · obtain rfl : j = c := by omega
      rw [Hal.out]
      have hA3 := below_trans hA2 hBr
      have hltr := hIr.lt
      obtain ⟨x0, x1, x2⟩ := hIr
      have hold := Hold.out
      have hless := Hless.out
      have hnone := Hnone.out
      have hy := Hy.out
      have hmp : m * p ≤ 4000 * 22 := Nat.mul_le_mul hm hp
      have hcr : j * r ≤ 4000 * 255 := Nat.mul_le_mul hc (by omega)
      have g1 : decide ((j : Int) < 0) = false := decide_eq_false (by omega)
      have g2 : decide (4000 < (j : Int)) = false := decide_eq_false (by omega)
      have g3 : decide (((m * p : Nat) : Int) < n) = false := decide_eq_false (by omega)
      have g3' : decide (m * p < n) = false := decide_eq_false (by omega)
      have hcase : (n = 0 ∧ m = 0) ∨ (0 < n ∧ 0 < m ∧ (m - 1) * p < n) := by
        rcases Nat.eq_zero_or_pos n with h | h
        · exact .inl ⟨h, hnone h⟩
        · exact .inr ⟨h, (hless h).2, (hless h).1⟩
      have fin := fin_facts n m p hp hm hcase
      have h5 : m + j * r ≤ 2000000 := by omega
      have h6 : m * p ≤ 2000000 := by omega
      have h7 : j * r ≤ 2000000 := by omega
      clear hcr hmp hold hless hnone
      obtain ⟨e1, e1'⟩ := wrap_mul m p h6
      obtain ⟨e4, e4'⟩ := wrap_mul j r h7
      have e5 := wrap_sum m (j * r) y h5 hy
      obtain ⟨q, hq, z, hz, hz', hfin⟩ := fin
      generalize m * p = M at *
      generalize j * r = CR at *
      clear hy hcase hBr h5 h6 h7
      rcases hfin with ⟨f1, f1', f2, f2', f3, f3', f4, f4'⟩ | ⟨f1, f1', f2, f2', f3⟩
      all_goals
        go_wp2_with fail
        have hTs : ∀ w'' : World, (w''.cell? ⟨w.heap.size, 0, none⟩ = some (.int .i64 p) ∧ w''.cell? ⟨w.heap.size, 1, none⟩ = some (.int .i64 d) ∧ w''.cell? ⟨w.heap.size, 2, none⟩ = some (.int .i64 r) ∧ Below wr.heap.size wr w'') → Tab w'' := fun w'' h => hTr.below h.2.2.2
        go_region_held3 (fun w'' => w''.cell? ⟨w.heap.size, 0, none⟩ = some (.int .i64 p) ∧ w''.cell? ⟨w.heap.size, 1, none⟩ = some (.int .i64 d) ∧ w''.cell? ⟨w.heap.size, 2, none⟩ = some (.int .i64 r) ∧ Below wr.heap.size wr w'')
          (first | exact keep3 hltr (by assumption) (by assumption) | exact keep3 hltr (by assumption) (below_drew _) | exact ⟨x0, x1, x2, below_drew _⟩ | exact ⟨x0, x1, x2, Below.refl _ _⟩)
          (first
            | (go_at_call 25; (with_reducible refine (nS _ (hTs _ (by assumption))).mono ?_); rintro e w' ⟨rfl, hB⟩)
            | (go_at_call 23; (with_reducible refine (pN _ (hTs _ (by assumption))).mono ?_); rintro e w' ⟨rfl, hB⟩)
            | (go_at_call 23; (with_reducible refine (pM _ (hTs _ (by assumption))).mono ?_); rintro e w' ⟨rfl, hB⟩)
            | (go_at_call 27; refine (wakes_any _ (hTs _ (by assumption))).mono ?_; rintro e w' ⟨rfl, hB⟩))
        rename_i hH
        have hA6 := below_trans hA3 hH.2.2.2
        clear hH hTs nS pN pM x0 x1 x2
        go_wp2
        go_ret
        exact ⟨rfl, hA6⟩

theorem ShapeAll_any (P D R L : Int) (w : World) (hT : Tab w) :
    Calls Tryd.prog 4 #[shV P D R, .int .i64 L] w fun e w' => e = .returned (.bool true) ∧ Below w.heap.size w w' := by
  by_cases h : May P D R
  case neg => exact All_1 P D R L w hT (fun w => RefCheck_no P D R h w) (fun w hT => Count_no P D R L h w hT) (fun w hT => Groups_no P D R L h w hT)
  by_cases hl : 0 ≤ L ∧ L ≤ 4000
  case neg =>
    refine All_2 P D R L w hT ?_ (fun w => RefCheck_yes P D R h w) (fun w hT => Count_bad P D R L h (by omega) w hT) (fun w hT => Groups_bad P D R L h (by omega) w hT)
    simp only [decide_eq_true_eq, decide_eq_false_iff_not]; omega
  obtain ⟨p, d, r, rfl, rfl, rfl, p2, p22, d0, d255, r32, dr⟩ := may_nat h
  obtain ⟨n, rfl⟩ : ∃ n : Nat, L = n := ⟨L.toNat, by omega⟩
  have ml := pieces_le n p (by omega)
  have cl := cnt_le (pieces n p) d d0
  obtain ⟨hold, hless, hnone⟩ := pieces_hold n p (by omega)
  have hp1 : pcs (pieces n p) d ((cntOf (pieces n p) d : Nat) : Int) = 0 := by
    unfold pcs; rw [if_neg (by omega)]
  have hp2 : pcs (pieces n p) d (-1) = 0 := by
    unfold pcs; rw [if_neg (by omega)]
  refine All_3 p d r n (pieces n p) (cntOf (pieces n p) d) (pieces n p + cntOf (pieces n p) d * r) (fun j => min (pieces n p) (j * d)) w hT (by omega) p22 d255 dr (by omega) (by omega)
    (by simp) (Nat.min_eq_left (cnt_all _ d d0)) (fun j _ => by have := Nat.min_le_left (pieces n p) (j * d); omega) ?_ hold hless hnone rfl
    (fun w => RefCheck_yes p d r h w) (fun w hT => Groups_yes p d r n _ h (by omega) rfl w hT)
    (fun w hT => by have := Count_yes p d r n _ h (by omega) rfl w hT; rw [show (n + p - 1) / p = pieces n p from rfl, sumW_all r _ d d0 (by omega) (by omega)] at this; exact this)
    (fun w hT => by have := Pieces_yes p d r n _ ((cntOf (pieces n p) d : Nat) : Int) h (by omega) rfl w hT; rw [show (n + p - 1) / p = pieces n p from rfl, hp1] at this; exact this)
    (fun w hT => by have := Pieces_yes p d r n _ (-1) h (by omega) rfl w hT; rw [show (n + p - 1) / p = pieces n p from rfl, hp2] at this; exact this)
  intro j hj
  have h1 := (cnt_iff (pieces n p) d j d0).1 hj
  have hk : pcs (pieces n p) d (j : Int) = min (pieces n p - j * d) d := by
    unfold pcs
    rw [if_pos ⟨by omega, by simpa using hj⟩]
    simp
  refine ⟨min (pieces n p - j * d) d, by omega, by omega, ?_, ?_, fun w hT => ?_⟩
  · intro hlt
    have h2 := cnt_iff (pieces n p) d (j + 1) d0
    rw [Nat.add_mul, Nat.one_mul] at h2
    have h3 : ¬ (j + 1 < cntOf (pieces n p) d) := fun h => by have := h2.1 h; omega
    omega
  · show min (pieces n p) ((j + 1) * d) = min (pieces n p) (j * d) + _
    rw [Nat.add_mul, Nat.one_mul]
    generalize j * d = x at *
    omega
  · have := Pieces_yes p d r n _ (j : Int) h (by omega) rfl w hT
    rw [show (n + p - 1) / p = pieces n p from rfl, hk] at this
    exact this
end Go.Proofs.YtjfhbhidnlgabaaDoor
