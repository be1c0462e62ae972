/- Contract of the law's clean; the words of clean rows. -/
import Derived.Test.YtnlndaknljbhcaaDoorWdWZ
namespace Go.Proofs.YtnlndaknljbhcaaDoor
open Go.RowKit Go.Shelf
attribute [local go_sem] Oper.semAt_some run_store_func

/-- Whether all letters are of the four, and from 2 to 60 of them. -/
def CleanW (s : List UInt8) : Prop := 2 ≤ s.length ∧ s.length ≤ 60 ∧ ∀ k, k < s.length → codeOf (atB s k).toNat ≠ -1
instance (s : List UInt8) : Decidable (CleanW s) := by unfold CleanW; infer_instance
set_option maxRecDepth 100000 in
set_option maxHeartbeats 4000000 in
theorem wclean_any (sv : Value) (s : List UInt8) (w : World) (hS : Sl eB w.heap.size w sv s) :
    Calls Tryd.prog 24 #[sv] w fun e w' => e = .returned (.bool (decide (CleanW s))) ∧ w = w' := by
  obtain ⟨A, c, rfl, hc, hcs⟩ := hS
  go_enter Tryd.func24, Tryd.ntmps24
  go_wp2_with fail
  go_loop [3] (fun i => ∃ k : Nat, k ≤ s.length ∧ k ≤ 61 ∧ i = .int .i64 k ∧ ∀ j, j < k → codeOf (atB s j).toNat ≠ -1) (fun i => 70 - (intOf i).toNat)
  case atStart => exact ⟨0, Nat.zero_le _, by omega, rfl, fun j hj => absurd hj (by omega)⟩
  case round =>
    obtain ⟨k, hk, hk61, rfl, hok⟩ := hrel
    by_cases hlt : k < s.length
    · have d1 : decide ((k : Int) < (s.length : Int)) = true := decide_eq_true (by omega)
      have hkl : (k : Int) < (s.length : Int) := by omega
      by_cases h60 : k ≤ 60
      · have d2 : decide ((k : Int) ≤ 60) = true := decide_eq_true (by omega)
        obtain ⟨b, off, rfl, hb, hcell⟩ := hcs (by omega)
        have hx := hcell k _ (atB_lt hlt)
        by_cases hbad : codeOf (atB s k).toNat = -1
        · have hno : decide (CleanW s) = false := decide_eq_false (fun h => h.2.2 k hlt hbad)
          obtain ⟨n0, n1, n2, n3⟩ := code_none hbad
          have b0 := byte_neq n0
          have b1 := byte_neq n1
          have b2 := byte_neq n2
          have b3 := byte_neq n3
          have Hn := Lib.hid hno
          clear n0 n1 n2 n3 hbad hcell hcs hok hno
          generalize atB s k = y at *
          simp only [show ((65 : UInt8).toNat : Int) = 65 from rfl, show ((67 : UInt8).toNat : Int) = 67 from rfl, show ((71 : UInt8).toNat : Int) = 71 from rfl, show ((84 : UInt8).toNat : Int) = 84 from rfl] at b0 b1 b2 b3
          go_wp2_with fail
          go_ret
          exact ⟨by rw [Hn.out]; rfl, rfl⟩
        · have Hok := Lib.hid (show ∀ j, j < k + 1 → codeOf (atB s j).toNat ≠ -1 from fun j hj => by
            by_cases e : j = k
            · rw [e]; exact hbad
            · exact hok j (by omega))
          have hfour := code_four hbad
          clear hbad hcell hcs hok
          generalize atB s k = y at *
          rcases hfour with rfl | rfl | rfl | rfl
          all_goals
            go_wp2_with fail
            go_round
            case rel => exact ⟨k + 1, by omega, by omega, by go_num, Hok.out⟩
            case measure => simp [intOf]; omega
      · have d2 : decide ((k : Int) ≤ 60) = false := decide_eq_false (by omega)
        have hno : decide (CleanW s) = false := decide_eq_false (fun h => by have := h.2.1; omega)
        have d3 : decide ((2 : Int) ≤ (s.length : Int)) = true := decide_eq_true (by omega)
        have d4 : decide ((s.length : Int) ≤ 60) = false := decide_eq_false (by omega)
        have Hn := Lib.hid hno
        clear hok hno hcs
        go_wp2_with fail
        go_ret
        exact ⟨by rw [Hn.out]; rfl, rfl⟩
    · obtain rfl : k = s.length := by omega
      have d1 : decide ((s.length : Int) < (s.length : Int)) = false := decide_eq_false (by omega)
      by_cases h2 : 2 ≤ s.length
      · have d3 : decide ((2 : Int) ≤ (s.length : Int)) = true := decide_eq_true (by omega)
        by_cases h60 : s.length ≤ 60
        · have d4 : decide ((s.length : Int) ≤ 60) = true := decide_eq_true (by omega)
          have Hn := Lib.hid (show decide (CleanW s) = true from decide_eq_true ⟨h2, h60, hok⟩)
          clear hok hcs h2 h60
          go_wp2_with fail
          go_ret
          exact ⟨by rw [Hn.out]; rfl, rfl⟩
        · have d4 : decide ((s.length : Int) ≤ 60) = false := decide_eq_false (by omega)
          have Hn := Lib.hid (show decide (CleanW s) = false from decide_eq_false (fun h => h60 h.2.1))
          clear hok hcs h2 h60
          go_wp2_with fail
          go_ret
          exact ⟨by rw [Hn.out]; rfl, rfl⟩
      · have d3 : decide ((2 : Int) ≤ (s.length : Int)) = false := decide_eq_false (by omega)
        have Hn := Lib.hid (show decide (CleanW s) = false from decide_eq_false (fun h => h2 h.1))
        clear hok hcs h2
        go_wp2_with fail
        go_ret
        exact ⟨by rw [Hn.out]; rfl, rfl⟩
theorem clean_may {x : List UInt8} (h : CleanW x) : ∃ a b c, sumsG x = .ok (a, b, c) ∧ wfG x = .ok (fldL x a b c) := by
  have hm : mayB x.length = true := by unfold mayB; rw [decide_eq_true (by have := h.1; omega), decide_eq_true (by have := h.2.1; omega)]; rfl
  have hs : sumsG x = .ok (sT x x.length % x.length, sS x x.length % 4, sW x x.length % (6 * x.length + 1)) := by
    rw [sumsG, if_neg (by rw [hm]; simp), if_neg (fun ⟨k, h1, h2⟩ => h.2.2 k h1 h2)]
  refine ⟨_, _, _, hs, ?_⟩
  unfold wfG
  rw [if_pos ⟨h.1, by have := h.2.1; omega⟩, hs]
/-- The word of a clean row. -/
def wordC (x : List UInt8) : List UInt8 := match wfG x with | .ok f => wordL x f | .error _ => []
theorem wordC_len {x : List UInt8} (h : CleanW x) : (wordC x).length = wlongN x.length := by
  obtain ⟨a, b, c, -, hw⟩ := clean_may h
  unfold wordC
  rw [hw]
  exact wordL_length x _ (fldL_length _ _ _ _)
theorem wordC_le {x : List UInt8} (h : CleanW x) : (wordC x).length ≤ 120 := by
  rw [wordC_len h]
  have := h.2.1
  have := Lib.bitLen_le (x.length - 1) 6 (by omega) (by omega)
  have := Lib.bitLen_le (6 * x.length) 9 (by omega) (by omega)
  unfold wlongN longN zb tb wb
  omega
theorem wordC_far {x y : List UInt8} (hx : CleanW x) (hy : CleanW y) (hl : x.length = y.length) (hne : x ≠ y) : 2 < dist (wordC x) (wordC y) := by
  obtain ⟨a, b, c, hs, hw⟩ := clean_may hx
  obtain ⟨a', b', c', hs', hw'⟩ := clean_may hy
  unfold wordC
  rw [hw, hw']
  exact words_far hs hs' hl hne
theorem Make_clean (x : List UInt8) (hx : CleanW x) (sv : Value) (w : World) (hT : Tab w) (hTB : TabB w) (hS : Sl eB w.heap.size w sv x) :
    Calls Tryd.prog 9 #[sv] w fun e w' => Below w.heap.size w w' ∧ ∃ u, e = .returned (.tuple #[u, .int .i64 0]) ∧ Sl eB w'.heap.size w' u (wordC x) := by
  obtain ⟨a, b, c, -, hw⟩ := clean_may hx
  refine (WMake_any sv x w hT hTB hS).mono ?_
  rintro e w' ⟨hB, ⟨f, u, hf, rfl, hu, -⟩ | ⟨m, hm, rfl⟩⟩
  · refine ⟨hB, u, rfl, ?_⟩
    unfold wordC
    rw [hf]
    exact hu
  · rw [hw] at hm; cases hm
end Go.Proofs.YtnlndaknljbhcaaDoor
/- Contract of helixref01.Gc; what WordParts asks of a word. -/
namespace Go.Proofs.YtnlndaknljbhcaaDoor
open Go.RowKit Go.Shelf
attribute [local go_sem] Oper.semAt_some run_store_func

theorem alt_at {cls : UInt8 → Bool} (l : List UInt8) : ∀ (b : Bool) (m : Nat), Alt cls b l → m < l.length → cls (atB l m) = (if m % 2 = 0 then b else !b) := by
  induction l with
  | nil => intro b m _ h; simp at h
  | cons x l ih =>
    intro b m h hm
    cases m with
    | zero => exact h.1
    | succ m =>
      have h1 := ih (!b) m h.2 (by simpa using hm)
      have e : atB (x :: l) (m + 1) = atB l m := by simp [atB]
      rw [e, h1]
      rcases Nat.mod_two_eq_zero_or_one m with q | q
      · rw [if_pos q, if_neg (by omega)]
      · rw [if_neg (by omega), if_pos (by omega), Bool.not_not]
theorem alt_next {cls : UInt8 → Bool} {l : List UInt8} {b : Bool} {m : Nat} (h : Alt cls b l) (hm : m + 1 < l.length) : atB l (m + 1) ≠ atB l m := by
  intro e
  have h1 := alt_at l b (m + 1) h hm
  have h2 := alt_at l b m h (by omega)
  rw [e, h2] at h1
  rcases Nat.mod_two_eq_zero_or_one m with q | q
  · rw [if_pos q, if_neg (by omega)] at h1; cases b <;> cases h1
  · rw [if_neg (by omega), if_pos (by omega)] at h1; cases b <;> cases h1
theorem clsB_yes {y : UInt8} (h : clsB y = true) : y = 67 ∨ y = 71 := by
  unfold clsB at h
  simpa using h
theorem clsB_no {y : UInt8} (h : clsB y = false) : y ≠ 67 ∧ y ≠ 71 := by
  unfold clsB at h
  simpa using h
set_option maxRecDepth 100000 in
set_option maxHeartbeats 2000000 in
theorem Gc_alt (sv : Value) (f : List UInt8) (h : Alt clsB false f) (hl : f.length ≤ 100000) (w : World) (hS : Sl eB w.heap.size w sv f) :
    Calls Tryd.prog 29 #[sv] w fun e w' => e = .returned (.int .i64 (f.length / 2 : Nat)) ∧ w = w' := by
  obtain ⟨A, c, rfl, hc, hcs⟩ := hS
  go_enter Tryd.func29, Tryd.ntmps29
  go_wp2_with fail
  go_loopw [3, 4] (fun t i wr => ∃ m : Nat, m ≤ f.length ∧ i = .int .i64 m ∧ t = .int .i64 (m / 2 : Nat) ∧ wr = w) (fun _ i _ => f.length - (intOf i).toNat)
  case atStart => exact ⟨0, Nat.zero_le _, rfl, rfl, rfl⟩
  case round =>
    obtain ⟨m, hm, rfl, rfl, rfl⟩ := hrel
    by_cases hlt : m < f.length
    · obtain ⟨b, off, rfl, hb, hcell⟩ := hcs (by omega)
      have hx := hcell m _ (atB_lt hlt)
      have hcl := alt_at f false m h hlt
      have hml : (m : Int) < (f.length : Int) := by omega
      have Hlt := Lib.hid (And.intro hlt hl)
      have hm9 : m ≤ 100000 := by omega
      rcases Nat.mod_two_eq_zero_or_one m with q | q
      · rw [if_pos q] at hcl
        obtain ⟨n1, n2⟩ := clsB_no hcl
        have f1 : ((atB f m).toNat : Int) ≠ 67 := fun e => n1 (UInt8.toNat_inj.1 (by show (atB f m).toNat = 67; omega))
        have f2 : ((atB f m).toNat : Int) ≠ 71 := fun e => n2 (UInt8.toNat_inj.1 (by show (atB f m).toNat = 71; omega))
        have g1 : (((atB f m).toNat : Int) == 67) = false := beq_eq_false_iff_ne.2 f1
        have g2 : (((atB f m).toNat : Int) == 71) = false := beq_eq_false_iff_ne.2 f2
        have hq : (m + 1) / 2 = m / 2 := by omega
        have Hq := Lib.hid hq
        clear hcl n1 n2 f1 f2 hq hcell hcs h hc hm hlt q
        generalize m / 2 = u at *
        generalize atB f m = y at *
        go_wp2_with fail
        go_roundw
        case rel => exact ⟨m + 1, by have := Hlt.out; omega, by have := Hlt.out; go_num, by rw [Hq.out], trivial⟩
        case measure => have := Hlt.out; simp [intOf]; omega
      · rw [if_neg (by omega)] at hcl
        have hq : (m + 1) / 2 = m / 2 + 1 := by omega
        have Hq := Lib.hid hq
        have hu : m / 2 ≤ 100000 := by omega
        have hyy := clsB_yes hcl
        clear hcl hq hcell hcs h hc hm hlt q hl
        generalize m / 2 = u at *
        generalize atB f m = y at *
        rcases hyy with rfl | rfl
        · go_wp2_with fail
          go_roundw
          case rel => exact ⟨m + 1, by have := Hlt.out; omega, by have := Hlt.out; go_num, by rw [Hq.out]; go_num, trivial⟩
          case measure => have := Hlt.out; simp [intOf]; omega
        · go_wp2_with fail
          go_roundw
          case rel => exact ⟨m + 1, by have := Hlt.out; omega, by have := Hlt.out; go_num, by rw [Hq.out]; go_num, trivial⟩
          case measure => have := Hlt.out; simp [intOf]; omega
    · obtain rfl : m = f.length := by omega
      clear hcs h
      go_wp2_with fail
      go_ret
      exact ⟨rfl, rfl⟩
theorem fldL_alt {x : List UInt8} (a b c : Int) : Alt clsB false (fldL x a b c) ∧ Alt clsB false (fldL x a b c ++ fldL x a b c ++ fldL x a b c) := by
  have e : (packL a.toNat b.toNat c.toNat x.length).length % 2 = 0 := by rw [packL_length]; exact long_even _
  exact ⟨alt_field _ 0, alt_three _ e⟩
theorem told_fld {x : List UInt8} {a b c : Int} (hs : sumsG x = .ok (a, b, c)) (h8 : x.length ≤ 800) : ToldOk (fldL x a b c) x.length (a.toNat, b.toNat, c.toNat) := by
  obtain ⟨hr, ⟨h2, -⟩, -⟩ := sums_right hs
  obtain ⟨p1, p2, p3⟩ := right_nat hr
  obtain ⟨k1, k2⟩ := field_back _ (pack_bits a.toNat b.toNat c.toNat x.length)
  refine ⟨by omega, k2, ?_⟩
  unfold fldL
  rw [k1]
  exact unG_pack _ _ _ _ (by rw [int_nat p1, int_nat p2, int_nat p3]; exact hr)
theorem word_fld (x f : List UInt8) (i : Nat) (hi : i < 3) : ((wordL x f).take (x.length + 1 + (i + 1) * f.length)).drop (x.length + 1 + i * f.length) = f := by
  have e : wordL x f = (x ++ [juncL x f]) ++ (f ++ f ++ f) := rfl
  have hl : (x ++ [juncL x f]).length = x.length + 1 := by simp
  rw [e, List.take_append, List.drop_append, hl, List.take_of_length_le (by rw [hl]; omega), List.drop_of_length_le (by rw [hl]; omega), List.nil_append, Nat.add_sub_cancel_left, hl, Nat.add_sub_cancel_left]
  rcases (show i = 0 ∨ i = 1 ∨ i = 2 by omega) with rfl | rfl | rfl
  · simp
  · rw [show (1 + 1) * f.length = f.length + f.length by omega, show 1 * f.length = f.length by omega, List.append_assoc, List.take_append]
    simp
  · rw [show (2 + 1) * f.length = f.length + f.length + f.length by omega, show 2 * f.length = f.length + f.length by omega, List.take_of_length_le (by simp; omega), List.drop_append]
    simp
theorem word_next {x : List UInt8} (a b c : Int) (h2 : 2 ≤ x.length) (i : Nat) (hi : x.length ≤ i) (hl : i < (wordL x (fldL x a b c)).length) : atB (wordL x (fldL x a b c)) i ≠ atB (wordL x (fldL x a b c)) (i - 1) := by
  obtain ⟨h1, h3⟩ := fldL_alt (x := x) a b c
  have hL : (wordL x (fldL x a b c)).length = x.length + 1 + (fldL x a b c ++ fldL x a b c ++ fldL x a b c).length := by simp [wordL]; omega
  have hf2 : 2 ≤ (fldL x a b c).length := by rw [fldL_length]; unfold longN; omega
  have hl3 : (fldL x a b c ++ fldL x a b c ++ fldL x a b c).length = (fldL x a b c).length + (fldL x a b c).length + (fldL x a b c).length := by simp [Nat.add_assoc]
  have h30 : atB (fldL x a b c ++ fldL x a b c ++ fldL x a b c) 0 = atB (fldL x a b c) 0 := by rw [List.append_assoc, atB_append_left _ _ (by omega)]
  rw [hL] at hl
  have eW : wordL x (fldL x a b c) = (x ++ [juncL x (fldL x a b c)]) ++ (fldL x a b c ++ fldL x a b c ++ fldL x a b c) := rfl
  rw [eW]
  have hj := jN_free (atB x (x.length - 1)) (atB (fldL x a b c) 0)
  have hJ : letterOf (jN (atB x (x.length - 1)) (atB (fldL x a b c) 0) : Nat) = juncL x (fldL x a b c) := rfl
  rw [hJ] at hj
  generalize fldL x a b c ++ fldL x a b c ++ fldL x a b c = FFF at *
  generalize fldL x a b c = F at *
  generalize juncL x F = j at *
  have hxj : (x ++ [j]).length = x.length + 1 := by simp
  rcases (show i = x.length ∨ i = x.length + 1 ∨ x.length + 2 ≤ i by omega) with e | e | e
  · rw [atB_append_left (x ++ [j]) FFF (show i < (x ++ [j]).length by omega), atB_append_left (x ++ [j]) FFF (show i - 1 < (x ++ [j]).length by omega), atB_append_right x [j] (show x.length ≤ i by omega), atB_append_left x [j] (show i - 1 < x.length by omega)]
    rw [e, Nat.sub_self]
    exact hj.1
  · rw [atB_append_right (x ++ [j]) FFF (show (x ++ [j]).length ≤ i by omega), atB_append_left (x ++ [j]) FFF (show i - 1 < (x ++ [j]).length by omega), atB_append_right x [j] (show x.length ≤ i - 1 by omega), hxj, e, Nat.sub_self, h30]
    rw [show x.length + 1 - 1 - x.length = 0 by omega]
    exact fun e2 => hj.2 e2.symm
  · rw [atB_append_right (x ++ [j]) FFF (show (x ++ [j]).length ≤ i by omega), atB_append_right (x ++ [j]) FFF (show (x ++ [j]).length ≤ i - 1 by omega), hxj]
    obtain ⟨m, hm⟩ : ∃ m, i - (x.length + 1) = m + 1 := ⟨i - x.length - 2, by omega⟩
    rw [hm, show i - 1 - (x.length + 1) = m by omega]
    exact alt_next h3 (by omega)
end Go.Proofs.YtnlndaknljbhcaaDoor
/- Contracts of helixref11.Field and Back. -/
namespace Go.Proofs.YtnlndaknljbhcaaDoor
open Go.RowKit Go.Shelf
attribute [local go_sem] Oper.semAt_some run_store_func

theorem field_snoc (bs : List UInt8) (k : Nat) (h : k < bs.length) : (fieldOf bs).take (k + 1) = (fieldOf bs).take k ++ [clsOf k (atB bs k).toNat] := by
  rw [List.take_succ_eq_append_getElem (by rw [fieldOf_length]; exact h)]
  simp [fieldOf, atB, h]
theorem back_snoc (s : List UInt8) (k : Nat) (h : k < s.length) : (s.zipIdx.map bitB).take (k + 1) = (s.zipIdx.map bitB).take k ++ [bitB (atB s k, k)] := by
  rw [List.take_succ_eq_append_getElem (by simpa using h)]
  simp [atB, h]
theorem all_bits_iff (bs : List UInt8) : (∀ b ∈ bs, b.toNat ≤ 1) ↔ ∀ k, k < bs.length → (atB bs k).toNat ≤ 1 := by
  constructor
  · intro h k hk
    have := h bs[k] (by simp)
    simpa [atB, hk] using this
  · intro h b hb
    obtain ⟨k, hk, rfl⟩ := List.getElem_of_mem hb
    have := h k hk
    simpa [atB, hk] using this
theorem all_lett_iff (s : List UInt8) : (∀ y ∈ s.zipIdx, LetterAt y) ↔ ∀ k, k < s.length → LetterAt (atB s k, k) := by
  constructor
  · intro h k hk
    have := h (s[k], k) (by rw [List.mem_zipIdx_iff_getElem?]; simp [hk])
    simpa [atB, hk] using this
  · intro h y hy
    rw [List.mem_zipIdx_iff_getElem?] at hy
    have hk : y.2 < s.length := (List.getElem?_eq_some_iff.1 hy).1
    have := h y.2 hk
    simp only [atB, hy, Option.getD_some] at this
    exact this
theorem atcg : (∀ w, (Instr.index 9 (.string ⟨#[65, 84, 67, 71]⟩) (.int .i64 0)).run Tryd.prog w = .ok (.int .u8 65) w) ∧ (∀ w, (Instr.index 9 (.string ⟨#[65, 84, 67, 71]⟩) (.int .i64 1)).run Tryd.prog w = .ok (.int .u8 84) w) ∧
    (∀ w, (Instr.index 9 (.string ⟨#[65, 84, 67, 71]⟩) (.int .i64 2)).run Tryd.prog w = .ok (.int .u8 67) w) ∧ (∀ w, (Instr.index 9 (.string ⟨#[65, 84, 67, 71]⟩) (.int .i64 3)).run Tryd.prog w = .ok (.int .u8 71) w) :=
  ⟨fun _ => by kernel_rfl, fun _ => by kernel_rfl, fun _ => by kernel_rfl, fun _ => by kernel_rfl⟩
theorem tmod2 (k : Nat) : (k % 2 = 0 ∧ (k : Int).tmod 2 = 0) ∨ (k % 2 = 1 ∧ (k : Int).tmod 2 = 1) := by
  rw [Int.tmod_eq_emod_of_nonneg (by omega)]
  omega
set_option maxRecDepth 100000 in
set_option maxHeartbeats 4000000 in
theorem RField_any (sv : Value) (bs : List UInt8) (hreach : bs.length ≤ 100000) (w : World) (hS : Sl eB w.heap.size w sv bs) :
    Calls Tryd.prog 36 #[sv] w fun e w' => Below w.heap.size w w' ∧
      ((∃ v, e = .returned (.tuple #[v, .int .i64 0]) ∧ (∀ b ∈ bs, b.toNat ≤ 1) ∧ Sl eB w'.heap.size w' v (fieldOf bs)) ∨
       (e = .returned (.tuple #[.slice none 0 0, .int .i64 2]) ∧ ¬ ∀ b ∈ bs, b.toNat ≤ 1)) := by
  obtain ⟨i0, hi, hz0, hz1, hz2⟩ := info_parts info_u8
  obtain ⟨A, c, rfl, hc, hcs⟩ := hS
  obtain ⟨x0, x1, x2, x3⟩ := atcg
  have Hr := Lib.hid hreach
  clear hreach
  go_enter Tryd.func36, Tryd.ntmps36
  go_wp2_with fail
  go_loopw [4, 5] (fun v i wr => ∃ k : Nat, k ≤ bs.length ∧ i = .int .i64 k ∧ wr.ownsRow w.heap.size 5 1 v k (((fieldOf bs).take k).map eB) ∧ (∀ j, j < k → (atB bs j).toNat ≤ 1) ∧ Below w.heap.size w wr) (fun _ i _ => bs.length - (intOf i).toNat)
  case atStart => exact ⟨0, Nat.zero_le _, rfl, ⟨rfl, .inl ⟨rfl, rfl⟩⟩, fun j hj => absurd hj (by omega), Below.refl _ _⟩
  case round =>
    obtain ⟨k, hk, rfl, hrow, hok, hB⟩ := hrel
    by_cases hlt : k < bs.length
    · obtain ⟨b, off, rfl, hb, hcell⟩ := hcs (by omega)
      have hx := (hB.cell (p := ⟨b, off + k, none⟩) hb).trans (hcell k _ (atB_lt hlt))
      have hkl : (k : Int) < (bs.length : Int) := by omega
      have hsn := field_snoc bs k hlt
      have hm := Hr.out
      have hm1 : k + 1 ≤ maxLen := by unfold maxLen; omega
      have hk9 : k ≤ 100000 := by omega
      have hBs := hB.size
      by_cases hbad : (atB bs k).toNat ≤ 1
      · have Hok := Lib.hid (show ∀ j, j < k + 1 → (atB bs j).toNat ≤ 1 from fun j hj => by
          by_cases e : j = k
          · rw [e]; exact hbad
          · exact hok j (by omega))
        have hbb : atB bs k = 0 ∨ atB bs k = 1 := by
          rcases (show (atB bs k).toNat = 0 ∨ (atB bs k).toNat = 1 by omega) with e | e
          · exact .inl (UInt8.toNat_inj.1 e)
          · exact .inr (UInt8.toNat_inj.1 e)
        have Hlt := Lib.hid hlt
        rcases tmod2 k with ⟨q, ht⟩ | ⟨q, ht⟩
        all_goals
          rcases hbb with e | e
          all_goals
            rw [e] at hx hsn
            unfold clsOf at hsn
            simp [q] at hsn
            have Hsn := Lib.hid hsn
            clear hsn hok hbad e q hcell hcs hm hlt
            go_wp2_with
              (at_builtin
               refine wpList_append_own _ rfl _ _ 22 rfl w.heap.size 5 i0 (.int .u8 0) 1 1 Tryd.underlying22 hi hz0 hz1 hz2 rfl (by decide) _ _ _ rfl (hrow.alloc _) ⟨wr.heap.size, 0, none⟩ 1 1 [_] rfl rfl (cell_one_new _ _ _) (by simp [Value.oneCell']) hm1 (by omega) (by simp; omega) ?_
               intro v' w2 hown' hgrow _)
            have hB2 : Below w.heap.size w w2 := (hB.alloc hBs _).trans (below_grown (hrow.alloc _) hgrow (by simp; omega) (Nat.le_refl _))
            go_roundw
            case rel => exact ⟨k + 1, by have := Hlt.out; omega, by go_num, by rw [Hsn.out, List.map_append]; exact hown', Hok.out, hB2⟩
            case measure => have := Hlt.out; simp [intOf]; omega
      · have hgt : (1 : Int) < ((atB bs k).toNat : Int) := by omega
        have Hno := Lib.hid (show ¬ ∀ b ∈ bs, b.toNat ≤ 1 from fun h => hbad ((all_bits_iff bs).1 h k hlt))
        clear hok hbad hcell hcs hsn hm hlt
        generalize atB bs k = y at *
        go_wp2_with fail
        go_ret2
        exact ⟨hB, .inr ⟨rfl, Hno.out⟩⟩
    · obtain rfl : k = bs.length := by omega
      have hl : (fieldOf bs).take bs.length = fieldOf bs := List.take_of_length_le (by rw [fieldOf_length]; exact Nat.le_refl _)
      rw [hl] at hrow
      have Hall := Lib.hid ((all_bits_iff bs).2 hok)
      have hfl := fieldOf_length bs
      have hsl : Sl eB wr.heap.size wr u4 (fieldOf bs) := Sl.of_own (n := bs.length) hrow
      obtain ⟨A4, l4, c4, rfl⟩ := own_shape hrow
      clear hok hcs hl hfl hrow
      go_wp2_with fail
      go_ret2
      exact ⟨hB, .inl ⟨_, rfl, Hall.out, hsl⟩⟩
set_option maxRecDepth 100000 in
set_option maxHeartbeats 4000000 in
theorem RBack_any (sv : Value) (s : List UInt8) (hreach : s.length ≤ 100000) (w : World) (hS : Sl eB w.heap.size w sv s) :
    Calls Tryd.prog 39 #[sv] w fun e w' => Below w.heap.size w w' ∧
      ((∃ v, e = .returned (.tuple #[v, .int .i64 0]) ∧ (∀ y ∈ s.zipIdx, LetterAt y) ∧ Sl eB w'.heap.size w' v (s.zipIdx.map bitB)) ∨
       (e = .returned (.tuple #[.slice none 0 0, .int .i64 10]) ∧ ¬ ∀ y ∈ s.zipIdx, LetterAt y)) := by
  obtain ⟨i0, hi, hz0, hz1, hz2⟩ := info_parts info_u8
  obtain ⟨A, c, rfl, hc, hcs⟩ := hS
  obtain ⟨x0, x1, x2, x3⟩ := atcg
  have Hr := Lib.hid hreach
  clear hreach
  go_enter Tryd.func39, Tryd.ntmps39
  go_wp2_with fail
  go_loopw [4, 5] (fun v i wr => ∃ k : Nat, k ≤ s.length ∧ i = .int .i64 k ∧ wr.ownsRow w.heap.size 5 1 v k (((s.zipIdx.map bitB).take k).map eB) ∧ (∀ j, j < k → LetterAt (atB s j, j)) ∧ Below w.heap.size w wr) (fun _ i _ => s.length - (intOf i).toNat)
  case atStart => exact ⟨0, Nat.zero_le _, rfl, ⟨rfl, .inl ⟨rfl, rfl⟩⟩, fun j hj => absurd hj (by omega), Below.refl _ _⟩
  case round =>
    obtain ⟨k, hk, rfl, hrow, hok, hB⟩ := hrel
    by_cases hlt : k < s.length
    · obtain ⟨b, off, rfl, hb, hcell⟩ := hcs (by omega)
      have hx := (hB.cell (p := ⟨b, off + k, none⟩) hb).trans (hcell k _ (atB_lt hlt))
      have hkl : (k : Int) < (s.length : Int) := by omega
      have hsn := back_snoc s k hlt
      have hm := Hr.out
      have hm1 : k + 1 ≤ maxLen := by unfold maxLen; omega
      have hk9 : k ≤ 100000 := by omega
      have hBs := hB.size
      have Hlt := Lib.hid hlt
      by_cases h0 : atB s k = clsOf k 0
      · have hL : LetterAt (atB s k, k) := .inl h0
        have Hok := Lib.hid (show ∀ j, j < k + 1 → LetterAt (atB s j, j) from fun j hj => by
          by_cases e : j = k
          · rw [e]; exact hL
          · exact hok j (by omega))
        have hbit : bitB (atB s k, k) = 0 := if_pos h0
        rw [hbit] at hsn
        have Hsn := Lib.hid hsn
        rw [h0] at hx
        unfold clsOf at hx
        clear hsn hok hcell hcs hm hlt h0 hL hbit
        rcases tmod2 k with ⟨q, ht⟩ | ⟨q, ht⟩
        all_goals
          simp [q] at hx
          clear q
          go_wp2_with
            (at_builtin
             refine wpList_append_own _ rfl _ _ 22 rfl w.heap.size 5 i0 (.int .u8 0) 1 1 Tryd.underlying22 hi hz0 hz1 hz2 rfl (by decide) _ _ _ rfl (hrow.alloc _) ⟨wr.heap.size, 0, none⟩ 1 1 [_] rfl rfl (cell_one_new _ _ _) (by simp [Value.oneCell']) hm1 (by omega) (by simp; omega) ?_
             intro v' w2 hown' hgrow _)
          have hB2 : Below w.heap.size w w2 := (hB.alloc hBs _).trans (below_grown (hrow.alloc _) hgrow (by simp; omega) (Nat.le_refl _))
          go_roundw
          case rel => exact ⟨k + 1, by have := Hlt.out; omega, by go_num, by rw [Hsn.out, List.map_append]; exact hown', Hok.out, hB2⟩
          case measure => have := Hlt.out; simp [intOf]; omega
      · by_cases h1 : atB s k = clsOf k 1
        · have hL : LetterAt (atB s k, k) := .inr h1
          have Hok := Lib.hid (show ∀ j, j < k + 1 → LetterAt (atB s j, j) from fun j hj => by
            by_cases e : j = k
            · rw [e]; exact hL
            · exact hok j (by omega))
          have hbit : bitB (atB s k, k) = 1 := if_neg h0
          rw [hbit] at hsn
          have Hsn := Lib.hid hsn
          rw [h1] at hx
          unfold clsOf at hx
          clear hsn hok hcell hcs hm hlt h0 h1 hL hbit
          rcases tmod2 k with ⟨q, ht⟩ | ⟨q, ht⟩
          all_goals
            simp [q] at hx
            clear q
            go_wp2_with
              (at_builtin
               refine wpList_append_own _ rfl _ _ 22 rfl w.heap.size 5 i0 (.int .u8 0) 1 1 Tryd.underlying22 hi hz0 hz1 hz2 rfl (by decide) _ _ _ rfl (hrow.alloc _) ⟨wr.heap.size, 0, none⟩ 1 1 [_] rfl rfl (cell_one_new _ _ _) (by simp [Value.oneCell']) hm1 (by omega) (by simp; omega) ?_
               intro v' w2 hown' hgrow _)
            have hB2 : Below w.heap.size w w2 := (hB.alloc hBs _).trans (below_grown (hrow.alloc _) hgrow (by simp; omega) (Nat.le_refl _))
            go_roundw
            case rel => exact ⟨k + 1, by have := Hlt.out; omega, by go_num, by rw [Hsn.out, List.map_append]; exact hown', Hok.out, hB2⟩
            case measure => have := Hlt.out; simp [intOf]; omega
        · have Hno := Lib.hid (show ¬ ∀ y ∈ s.zipIdx, LetterAt y from fun h => by
            rcases (all_lett_iff s).1 h k hlt with e | e
            · exact h0 e
            · exact h1 e)
          rcases tmod2 k with ⟨q, ht⟩ | ⟨q, ht⟩
          · have n0 : ((atB s k).toNat : Int) ≠ 65 := fun e => h0 (by unfold clsOf; rw [if_pos q, if_pos rfl]; exact UInt8.toNat_inj.1 (by show (atB s k).toNat = 65; omega))
            have n1 : ((atB s k).toNat : Int) ≠ 84 := fun e => h1 (by unfold clsOf; rw [if_pos q, if_neg (by omega)]; exact UInt8.toNat_inj.1 (by show (atB s k).toNat = 84; omega))
            have g0 : (((atB s k).toNat : Int) == 65) = false := beq_eq_false_iff_ne.2 n0
            have g1 : (((atB s k).toNat : Int) == 84) = false := beq_eq_false_iff_ne.2 n1
            clear hok hcell hcs hsn hm hlt h0 h1 q n0 n1
            generalize atB s k = y at *
            go_wp2_with fail
            go_ret2
            exact ⟨hB, .inr ⟨rfl, Hno.out⟩⟩
          · have n0 : ((atB s k).toNat : Int) ≠ 67 := fun e => h0 (by unfold clsOf; rw [if_neg (by omega), if_pos rfl]; exact UInt8.toNat_inj.1 (by show (atB s k).toNat = 67; omega))
            have n1 : ((atB s k).toNat : Int) ≠ 71 := fun e => h1 (by unfold clsOf; rw [if_neg (by omega), if_neg (by omega)]; exact UInt8.toNat_inj.1 (by show (atB s k).toNat = 71; omega))
            have g0 : (((atB s k).toNat : Int) == 67) = false := beq_eq_false_iff_ne.2 n0
            have g1 : (((atB s k).toNat : Int) == 71) = false := beq_eq_false_iff_ne.2 n1
            clear hok hcell hcs hsn hm hlt h0 h1 q n0 n1
            generalize atB s k = y at *
            go_wp2_with fail
            go_ret2
            exact ⟨hB, .inr ⟨rfl, Hno.out⟩⟩
    · obtain rfl : k = s.length := by omega
      have hl : (s.zipIdx.map bitB).take s.length = s.zipIdx.map bitB := List.take_of_length_le (by simp)
      rw [hl] at hrow
      have Hall := Lib.hid ((all_lett_iff s).2 hok)
      have hll : (s.zipIdx.map bitB).length = s.length := by simp
      have hsl : Sl eB wr.heap.size wr u4 (s.zipIdx.map bitB) := Sl.of_own (n := s.length) hrow
      obtain ⟨A4, l4, c4, rfl⟩ := own_shape hrow
      clear hok hcs hl hrow hll
      go_wp2_with fail
      go_ret2
      exact ⟨hB, .inl ⟨_, rfl, Hall.out, hsl⟩⟩
end Go.Proofs.YtnlndaknljbhcaaDoor
