/- Contract of the law's clean; the words of clean rows. -/
import Derived.Test.YtnlndaknljbhcaaDoorWdWZ
namespace Go.Proofs.YtnlndaknljbhcaaDoor
open Go.RowKit Go.Shelf
attribute [local go_sem] Oper.semAt_some run_store_func

/-- Whether all letters are of the four, and from 2 to 60 of them. -/
def CleanW (s : List UInt8) : Prop := 2 ≤ s.length ∧ s.length ≤ 60 ∧ ∀ k, k < s.length → codeOf (atB s k).toNat ≠ -1
instance (s : List UInt8) : Decidable (CleanW s) := by unfold CleanW; infer_instance
set_option maxRecDepth 100000 in
set_option maxHeartbeats 4000000 in
theorem wclean_any (sv : Value) (s : List UInt8) (w : World) (hS : Sl eB w.heap.size w sv s) :
    Calls Tryd.prog 24 #[sv] w fun e w' => e = .returned (.bool (decide (CleanW s))) ∧ w = w' := by
  obtain ⟨A, c, rfl, hc, hcs⟩ := hS
  go_enter Tryd.func24, Tryd.ntmps24
  go_wp2_with fail
  go_loop [3] (fun i => ∃ k : Nat, k ≤ s.length ∧ k ≤ 61 ∧ i = .int .i64 k ∧ ∀ j, j < k → codeOf (atB s j).toNat ≠ -1) (fun i => 70 - (intOf i).toNat)
  case atStart => exact ⟨0, Nat.zero_le _, by omega, rfl, fun j hj => absurd hj (by omega)⟩
  case round =>
    obtain ⟨k, hk, hk61, rfl, hok⟩ := hrel
    by_cases hlt : k < s.length
    · have d1 : decide ((k : Int) < (s.length : Int)) = true := decide_eq_true (by omega)
      have hkl : (k : Int) < (s.length : Int) := by omega
      by_cases h60 : k ≤ 60
      · have d2 : decide ((k : Int) ≤ 60) = true := decide_eq_true (by omega)
        obtain ⟨b, off, rfl, hb, hcell⟩ := hcs (by omega)
        have hx := hcell k _ (atB_lt hlt)
        by_cases hbad : codeOf (atB s k).toNat = -1
        · have hno : decide (CleanW s) = false := decide_eq_false (fun h => h.2.2 k hlt hbad)
          obtain ⟨n0, n1, n2, n3⟩ := code_none hbad
          have b0 := byte_neq n0
          have b1 := byte_neq n1
          have b2 := byte_neq n2
          have b3 := byte_neq n3
          have Hn := Lib.hid hno
          clear n0 n1 n2 n3 hbad hcell hcs hok hno
          generalize atB s k = y at *
          simp only [show ((65 : UInt8).toNat : Int) = 65 from rfl, show ((67 : UInt8).toNat : Int) = 67 from rfl, show ((71 : UInt8).toNat : Int) = 71 from rfl, show ((84 : UInt8).toNat : Int) = 84 from rfl] at b0 b1 b2 b3
          go_wp2_with fail
          go_ret
          exact ⟨by rw [Hn.out]; rfl, rfl⟩
        · have Hok := Lib.hid (show ∀ j, j < k + 1 → codeOf (atB s j).toNat ≠ -1 from fun j hj => by
            by_cases e : j = k
            · rw [e]; exact hbad
            · exact hok j (by omega))
          have hfour := code_four hbad
          clear hbad hcell hcs hok
          generalize atB s k = y at *
          rcases hfour with rfl | rfl | rfl | rfl
          all_goals
            go_wp2_with fail
            go_round
            case rel => exact ⟨k + 1, by omega, by omega, by go_num, Hok.out⟩
            case measure => simp [intOf]; omega
      · have d2 : decide ((k : Int) ≤ 60) = false := decide_eq_false (by omega)
        have hno : decide (CleanW s) = false := decide_eq_false (fun h => by have := h.2.1; omega)
        have d3 : decide ((2 : Int) ≤ (s.length : Int)) = true := decide_eq_true (by omega)
        have d4 : decide ((s.length : Int) ≤ 60) = false := decide_eq_false (by omega)
        have Hn := Lib.hid hno
        clear hok hno hcs
        go_wp2_with fail
        go_ret
        exact ⟨by rw [Hn.out]; rfl, rfl⟩
    · obtain rfl : k = s.length := by omega
      have d1 : decide ((s.length : Int) < (s.length : Int)) = false := decide_eq_false (by omega)
      by_cases h2 : 2 ≤ s.length
      · have d3 : decide ((2 : Int) ≤ (s.length : Int)) = true := decide_eq_true (by omega)
        by_cases h60 : s.length ≤ 60
        · have d4 : decide ((s.length : Int) ≤ 60) = true := decide_eq_true (by omega)
          have Hn := Lib.hid (show decide (CleanW s) = true from decide_eq_true ⟨h2, h60, hok⟩)
          clear hok hcs h2 h60
          go_wp2_with fail
          go_ret
          exact ⟨by rw [Hn.out]; rfl, rfl⟩
        · have d4 : decide ((s.length : Int) ≤ 60) = false := decide_eq_false (by omega)
          have Hn := Lib.hid (show decide (CleanW s) = false from decide_eq_false (fun h => h60 h.2.1))
          clear hok hcs h2 h60
          go_wp2_with fail
          go_ret
          exact ⟨by rw [Hn.out]; rfl, rfl⟩
      · have d3 : decide ((2 : Int) ≤ (s.length : Int)) = false := decide_eq_false (by omega)
        have Hn := Lib.hid (show decide (CleanW s) = false from decide_eq_false (fun h => h2 h.1))
        clear hok hcs h2
        go_wp2_with fail
        go_ret
        exact ⟨by rw [Hn.out]; rfl, rfl⟩
theorem clean_may {x : List UInt8} (h : CleanW x) : ∃ a b c, sumsG x = .ok (a, b, c) ∧ wfG x = .ok (fldL x a b c) := by
  have hm : mayB x.length = true := by unfold mayB; rw [decide_eq_true (by have := h.1; omega), decide_eq_true (by have := h.2.1; omega)]; rfl
  have hs : sumsG x = .ok (sT x x.length % x.length, sS x x.length % 4, sW x x.length % (6 * x.length + 1)) := by
    rw [sumsG, if_neg (by rw [hm]; simp), if_neg (fun ⟨k, h1, h2⟩ => h.2.2 k h1 h2)]
  refine ⟨_, _, _, hs, ?_⟩
  unfold wfG
  rw [if_pos ⟨h.1, by have := h.2.1; omega⟩, hs]
/-- The word of a clean row. -/
def wordC (x : List UInt8) : List UInt8 := match wfG x with | .ok f => wordL x f | .error _ => []
theorem wordC_len {x : List UInt8} (h : CleanW x) : (wordC x).length = wlongN x.length := by
  obtain ⟨a, b, c, -, hw⟩ := clean_may h
  unfold wordC
  rw [hw]
  exact wordL_length x _ (fldL_length _ _ _ _)
theorem wordC_le {x : List UInt8} (h : CleanW x) : (wordC x).length ≤ 120 := by
  rw [wordC_len h]
  have := h.2.1
  have := Lib.bitLen_le (x.length - 1) 6 (by omega) (by omega)
  have := Lib.bitLen_le (6 * x.length) 9 (by omega) (by omega)
  unfold wlongN longN zb tb wb
  omega
theorem wordC_far {x y : List UInt8} (hx : CleanW x) (hy : CleanW y) (hl : x.length = y.length) (hne : x ≠ y) : 2 < dist (wordC x) (wordC y) := by
  obtain ⟨a, b, c, hs, hw⟩ := clean_may hx
  obtain ⟨a', b', c', hs', hw'⟩ := clean_may hy
  unfold wordC
  rw [hw, hw']
  exact words_far hs hs' hl hne
theorem Make_clean (x : List UInt8) (hx : CleanW x) (sv : Value) (w : World) (hT : Tab w) (hTB : TabB w) (hS : Sl eB w.heap.size w sv x) :
    Calls Tryd.prog 9 #[sv] w fun e w' => Below w.heap.size w w' ∧ ∃ u, e = .returned (.tuple #[u, .int .i64 0]) ∧ Sl eB w'.heap.size w' u (wordC x) := by
  obtain ⟨a, b, c, -, hw⟩ := clean_may hx
  refine (WMake_any sv x w hT hTB hS).mono ?_
  rintro e w' ⟨hB, ⟨f, u, hf, rfl, hu, -⟩ | ⟨m, hm, rfl⟩⟩
  · refine ⟨hB, u, rfl, ?_⟩
    unfold wordC
    rw [hf]
    exact hu
  · rw [hw] at hm; cases hm
end Go.Proofs.YtnlndaknljbhcaaDoor
/- Contract of helixref01.Gc; what WordParts asks of a word. -/
namespace Go.Proofs.YtnlndaknljbhcaaDoor
open Go.RowKit Go.Shelf
attribute [local go_sem] Oper.semAt_some run_store_func

theorem alt_at {cls : UInt8 → Bool} (l : List UInt8) : ∀ (b : Bool) (m : Nat), Alt cls b l → m < l.length → cls (atB l m) = (if m % 2 = 0 then b else !b) := by
  induction l with
  | nil => intro b m _ h; simp at h
  | cons x l ih =>
    intro b m h hm
    cases m with
    | zero => exact h.1
    | succ m =>
      have h1 := ih (!b) m h.2 (by simpa using hm)
      have e : atB (x :: l) (m + 1) = atB l m := by simp [atB]
      rw [e, h1]
      rcases Nat.mod_two_eq_zero_or_one m with q | q
      · rw [if_pos q, if_neg (by omega)]
      · rw [if_neg (by omega), if_pos (by omega), Bool.not_not]
theorem alt_next {cls : UInt8 → Bool} {l : List UInt8} {b : Bool} {m : Nat} (h : Alt cls b l) (hm : m + 1 < l.length) : atB l (m + 1) ≠ atB l m := by
  intro e
  have h1 := alt_at l b (m + 1) h hm
  have h2 := alt_at l b m h (by omega)
  rw [e, h2] at h1
  rcases Nat.mod_two_eq_zero_or_one m with q | q
  · rw [if_pos q, if_neg (by omega)] at h1; cases b <;> cases h1
  · rw [if_neg (by omega), if_pos (by omega)] at h1; cases b <;> cases h1
theorem clsB_yes {y : UInt8} (h : clsB y = true) : y = 67 ∨ y = 71 := by
  unfold clsB at h
  simpa using h
theorem clsB_no {y : UInt8} (h : clsB y = false) : y ≠ 67 ∧ y ≠ 71 := by
  unfold clsB at h
  simpa using h
set_option maxRecDepth 100000 in
set_option maxHeartbeats 2000000 in
theorem Gc_alt (sv : Value) (f : List UInt8) (h : Alt clsB false f) (hl : f.length ≤ 100000) (w : World) (hS : Sl eB w.heap.size w sv f) :
    Calls Tryd.prog 29 #[sv] w fun e w' => e = .returned (.int .i64 (f.length / 2 : Nat)) ∧ w = w' := by
  obtain ⟨A, c, rfl, hc, hcs⟩ := hS
  go_enter Tryd.func29, Tryd.ntmps29
  go_wp2_with fail
  go_loopw [3, 4] (fun t i wr => ∃ m : Nat, m ≤ f.length ∧ i = .int .i64 m ∧ t = .int .i64 (m / 2 : Nat) ∧ wr = w) (fun _ i _ => f.length - (intOf i).toNat)
  case atStart => exact ⟨0, Nat.zero_le _, rfl, rfl, rfl⟩
  case round =>
    obtain ⟨m, hm, rfl, rfl, rfl⟩ := hrel
    by_cases hlt : m < f.length
    · obtain ⟨b, off, rfl, hb, hcell⟩ := hcs (by omega)
      have hx := hcell m _ (atB_lt hlt)
      have hcl := alt_at f false m h hlt
      have hml : (m : Int) < (f.length : Int) := by omega
      have Hlt := Lib.hid (And.intro hlt hl)
      have hm9 : m ≤ 100000 := by omega
      rcases Nat.mod_two_eq_zero_or_one m with q | q
      · rw [if_pos q] at hcl
        obtain ⟨n1, n2⟩ := clsB_no hcl
        have f1 : ((atB f m).toNat : Int) ≠ 67 := fun e => n1 (UInt8.toNat_inj.1 (by show (atB f m).toNat = 67; omega))
        have f2 : ((atB f m).toNat : Int) ≠ 71 := fun e => n2 (UInt8.toNat_inj.1 (by show (atB f m).toNat = 71; omega))
        have g1 : (((atB f m).toNat : Int) == 67) = false := beq_eq_false_iff_ne.2 f1
        have g2 : (((atB f m).toNat : Int) == 71) = false := beq_eq_false_iff_ne.2 f2
        have hq : (m + 1) / 2 = m / 2 := by omega
        have Hq := Lib.hid hq
        clear hcl n1 n2 f1 f2 hq hcell hcs h hc hm hlt q
        generalize m / 2 = u at *
        generalize atB f m = y at *
        go_wp2_with fail
        go_roundw
        case rel => exact ⟨m + 1, by have := Hlt.out; omega, by have := Hlt.out; go_num, by rw [Hq.out], trivial⟩
        case measure => have := Hlt.out; simp [intOf]; omega
      · rw [if_neg (by omega)] at hcl
        have hq : (m + 1) / 2 = m / 2 + 1 := by omega
        have Hq := Lib.hid hq
        have hu : m / 2 ≤ 100000 := by omega
        have hyy := clsB_yes hcl
        clear hcl hq hcell hcs h hc hm hlt q hl
        generalize m / 2 = u at *
        generalize atB f m = y at *
        rcases hyy with rfl | rfl
        · go_wp2_with fail
          go_roundw
          case rel => exact ⟨m + 1, by have := Hlt.out; omega, by have := Hlt.out; go_num, by rw [Hq.out]; go_num, trivial⟩
          case measure => have := Hlt.out; simp [intOf]; omega
        · go_wp2_with fail
          go_roundw
          case rel => exact ⟨m + 1, by have := Hlt.out; omega, by have := Hlt.out; go_num, by rw [Hq.out]; go_num, trivial⟩
          case measure => have := Hlt.out; simp [intOf]; omega
    · obtain rfl : m = f.length := by omega
      clear hcs h
      go_wp2_with fail
      go_ret
      exact ⟨rfl, rfl⟩
theorem fldL_alt {x : List UInt8} (a b c : Int) : Alt clsB false (fldL x a b c) ∧ Alt clsB false (fldL x a b c ++ fldL x a b c ++ fldL x a b c) := by
  have e : (packL a.toNat b.toNat c.toNat x.length).length % 2 = 0 := by rw [packL_length]; exact long_even _
  exact ⟨alt_field _ 0, alt_three _ e⟩
theorem told_fld {x : List UInt8} {a b c : Int} (hs : sumsG x = .ok (a, b, c)) (h8 : x.length ≤ 800) : ToldOk (fldL x a b c) x.length (a.toNat, b.toNat, c.toNat) := by
  obtain ⟨hr, ⟨h2, -⟩, -⟩ := sums_right hs
  obtain ⟨p1, p2, p3⟩ := right_nat hr
  obtain ⟨k1, k2⟩ := field_back _ (pack_bits a.toNat b.toNat c.toNat x.length)
  refine ⟨by omega, k2, ?_⟩
  unfold fldL
  rw [k1]
  exact unG_pack _ _ _ _ (by rw [int_nat p1, int_nat p2, int_nat p3]; exact hr)
theorem word_fld (x f : List UInt8) (i : Nat) (hi : i < 3) : ((wordL x f).take (x.length + 1 + (i + 1) * f.length)).drop (x.length + 1 + i * f.length) = f := by
  have e : wordL x f = (x ++ [juncL x f]) ++ (f ++ f ++ f) := rfl
  have hl : (x ++ [juncL x f]).length = x.length + 1 := by simp
  rw [e, List.take_append, List.drop_append, hl, List.take_of_length_le (by rw [hl]; omega), List.drop_of_length_le (by rw [hl]; omega), List.nil_append, Nat.add_sub_cancel_left, hl, Nat.add_sub_cancel_left]
  rcases (show i = 0 ∨ i = 1 ∨ i = 2 by omega) with rfl | rfl | rfl
  · simp
  · rw [show (1 + 1) * f.length = f.length + f.length by omega, show 1 * f.length = f.length by omega, List.append_assoc, List.take_append]
    simp
  · rw [show (2 + 1) * f.length = f.length + f.length + f.length by omega, show 2 * f.length = f.length + f.length by omega, List.take_of_length_le (by simp; omega), List.drop_append]
    simp
theorem word_next {x : List UInt8} (a b c : Int) (h2 : 2 ≤ x.length) (i : Nat) (hi : x.length ≤ i) (hl : i < (wordL x (fldL x a b c)).length) : atB (wordL x (fldL x a b c)) i ≠ atB (wordL x (fldL x a b c)) (i - 1) := by
  obtain ⟨h1, h3⟩ := fldL_alt (x := x) a b c
  have hL : (wordL x (fldL x a b c)).length = x.length + 1 + (fldL x a b c ++ fldL x a b c ++ fldL x a b c).length := by simp [wordL]; omega
  have hf2 : 2 ≤ (fldL x a b c).length := by rw [fldL_length]; unfold longN; omega
  have hl3 : (fldL x a b c ++ fldL x a b c ++ fldL x a b c).length = (fldL x a b c).length + (fldL x a b c).length + (fldL x a b c).length := by simp [Nat.add_assoc]
  have h30 : atB (fldL x a b c ++ fldL x a b c ++ fldL x a b c) 0 = atB (fldL x a b c) 0 := by rw [List.append_assoc, atB_append_left _ _ (by omega)]
  rw [hL] at hl
  have eW : wordL x (fldL x a b c) = (x ++ [juncL x (fldL x a b c)]) ++ (fldL x a b c ++ fldL x a b c ++ fldL x a b c) := rfl
  rw [eW]
  have hj := jN_free (atB x (x.length - 1)) (atB (fldL x a b c) 0)
  have hJ : letterOf (jN (atB x (x.length - 1)) (atB (fldL x a b c) 0) : Nat) = juncL x (fldL x a b c) := rfl
  rw [hJ] at hj
  generalize fldL x a b c ++ fldL x a b c ++ fldL x a b c = FFF at *
  generalize fldL x a b c = F at *
  generalize juncL x F = j at *
  have hxj : (x ++ [j]).length = x.length + 1 := by simp
  rcases (show i = x.length ∨ i = x.length + 1 ∨ x.length + 2 ≤ i by omega) with e | e | e
  · rw [atB_append_left (x ++ [j]) FFF (show i < (x ++ [j]).length by omega), atB_append_left (x ++ [j]) FFF (show i - 1 < (x ++ [j]).length by omega), atB_append_right x [j] (show x.length ≤ i by omega), atB_append_left x [j] (show i - 1 < x.length by omega)]
    rw [e, Nat.sub_self]
    exact hj.1
  · rw [atB_append_right (x ++ [j]) FFF (show (x ++ [j]).length ≤ i by omega), atB_append_left (x ++ [j]) FFF (show i - 1 < (x ++ [j]).length by omega), atB_append_right x [j] (show x.length ≤ i - 1 by omega), hxj, e, Nat.sub_self, h30]
    rw [show x.length + 1 - 1 - x.length = 0 by omega]
    exact fun e2 => hj.2 e2.symm
  · rw [atB_append_right (x ++ [j]) FFF (show (x ++ [j]).length ≤ i by omega), atB_append_right (x ++ [j]) FFF (show (x ++ [j]).length ≤ i - 1 by omega), hxj]
    obtain ⟨m, hm⟩ : ∃ m, i - (x.length + 1) = m + 1 := ⟨i - x.length - 2, by omega⟩
    rw [hm, show i - 1 - (x.length + 1) = m by omega]
    exact alt_next h3 (by omega)
end Go.Proofs.YtnlndaknljbhcaaDoor
