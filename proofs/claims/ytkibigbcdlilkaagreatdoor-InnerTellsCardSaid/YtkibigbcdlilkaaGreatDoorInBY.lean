import Derived.Test.YtkibigbcdlilkaaGreatDoorExGY
import Derived.Test.YtkibigbcdlilkaaGreatDoorGpWY
import Derived.Test.YtkibigbcdlilkaaGreatDoorInAY
import Derived.Test.YtkibigbcdlilkaaGreatDoorSwXY
namespace Go.Proofs.YtkibigbcdlilkaaGreatDoor
open Go.RowKit Go.Shelf
instance (y : UInt8 × Nat) : Decidable (LetterAt y) := by unfold LetterAt; infer_instance
def toldG (f : List UInt8) (n : Nat) : Option (Nat × Nat × Nat) := if (2 ≤ n ∧ n ≤ 800) ∧ ∀ y ∈ f.zipIdx, LetterAt y then unG (f.zipIdx.map bitB) n else none
theorem toldG_iff (f : List UInt8) (n : Nat) (s : Nat × Nat × Nat) : toldG f n = some s ↔ ToldOk f n s := by
 unfold toldG ToldOk
 by_cases h : (2 ≤ n ∧ n ≤ 800) ∧ ∀ y ∈ f.zipIdx, LetterAt y
 · rw [if_pos h]
   exact ⟨fun e => ⟨by omega, h.2, e⟩, fun e => e.2.2⟩
 · rw [if_neg h]
   exact ⟨fun e => (by cases e), fun e => absurd ⟨by omega, e.2.1⟩ h⟩
theorem toldG_none (f : List UInt8) (n : Nat) : toldG f n = none ↔ ¬ ∃ s, ToldOk f n s := by
 constructor
 · rintro h ⟨s, hs⟩
   rw [(toldG_iff f n s).2 hs] at h
   cases h
 · intro h
   cases e : toldG f n with
   | none => rfl
   | some s => exact absurd ⟨s, (toldG_iff f n s).1 e⟩ h
def okO {α : Type} : Except Int α → Option α
  | .ok a => some a
  | .error _ => none
def amongG (y : List UInt8) (n : Nat) : Option (List UInt8) :=
 match toldG (y.drop (y.length - longN n)) n with
 | none => none
 | some (t, s, u) =>
   if y.length + 1 = wlongN n then okO (Gp.gapG (y.take (n - 1)) t s)
   else if y.length = wlongN n then okO (Sw.swapG (y.take n) s u)
   else (okO (Ex.findE (y.take (n + 1)) t s u)).map fun p => delW (y.take (n + 1)) p
def nearG (x y : List UInt8) : Bool := match wfG x with
 | .ok f => decide (dist (wordL x f) y ≤ 1)
 | .error _ => false
def mendG (y : List UInt8) (n : Nat) : Option (List UInt8) :=
 if y.length + 1 < wlongN n ∨ wlongN n + 1 < y.length then none
 else if nearG ((lettersL y).take n) y = true then some ((lettersL y).take n)
 else match amongG (lettersL y) n with
  | none => none
  | some x => if nearG x y = true then some x else none
theorem nearG_iff {x y : List UInt8} : nearG x y = true ↔ ∃ f, wfG x = .ok f ∧ dist (wordL x f) y ≤ 1 := by
 unfold nearG
 cases h : wfG x with
 | ok f => exact ⟨fun e => ⟨f, rfl, of_decide_eq_true e⟩, fun ⟨g, hg, e⟩ => by cases hg; exact decide_eq_true e⟩
 | error m => exact ⟨fun e => (by cases e), fun ⟨g, hg, _⟩ => by cases hg⟩
theorem mend_near {y x : List UInt8} {n : Nat} (h : mendG y n = some x) : nearG x y = true := by
 unfold mendG at h
 split at h
 · cases h
 · split at h
   · cases h; assumption
   · split at h
     · cases h
     · split at h
       · cases h; assumption
       · cases h
theorem near_one {x x' y : List UInt8} (h : nearG x y = true) (h' : nearG x' y = true) (hl : x.length = x'.length) : x = x' := by
 obtain ⟨f, hf, hd⟩ := nearG_iff.1 h
 obtain ⟨f', hf', hd'⟩ := nearG_iff.1 h'
 obtain ⟨-, -, -, a, b, c, hs, rfl⟩ := wfG_ok hf
 obtain ⟨-, -, -, a', b', c', hs', rfl⟩ := wfG_ok hf'
 refine Decidable.byContradiction fun hne => ?_
 have h1 := words_far hs hs' hl hne
 have h2 := dist_tri (wordL x (fldL x a b c)) y (wordL x' (fldL x' a' b' c'))
 rw [dist_comm y] at h2
 omega
theorem step_cases {a y : List UInt8} {m : Nat} (h : Way m a y) (hm : m ≤ 1) : y = a ∨ (∃ p, p < a.length ∧ y = a.take p ++ a.drop (p + 1)) ∨ (∃ p c, p ≤ a.length ∧ y = a.take p ++ c :: a.drop p) ∨ (∃ p c, p < a.length ∧ y = a.take p ++ c :: a.drop (p + 1)) := by
 rcases (show m = 0 ∨ m = 0 + 1 by omega) with rfl | rfl
 · exact .inl (h.zero rfl).symm
 · obtain ⟨z, h1, h2⟩ := way_step (L := fun _ => True) h 0 rfl (fun _ _ => trivial)
   obtain rfl := h2.zero rfl
   rcases step_is h1 with ⟨p, hp, e⟩ | ⟨p, c, -, hp, e⟩ | ⟨p, c, -, hp, e⟩
   · exact .inr (.inl ⟨p, hp, e⟩)
   · exact .inr (.inr (.inl ⟨p, c, hp, e⟩))
   · exact .inr (.inr (.inr ⟨p, c, hp, e⟩))
structure RowOk (x : List UInt8) (n : Nat) (a b c : Int) : Prop where
  len : x.length = n
  four : Four x
  two : 2 ≤ n
  most : n ≤ 800
  sums : sumsG x = .ok (a, b, c)
theorem RowOk.wf {x : List UInt8} {n : Nat} {a b c : Int} (h : RowOk x n a b c) : wfG x = .ok (fldL x a b c) := by
 unfold wfG
 rw [if_pos ⟨by rw [h.len]; exact h.two, by rw [h.len]; exact h.most⟩, h.sums]
theorem RowOk.is {x : List UInt8} {n : Nat} {a b c : Int} (h : RowOk x n a b c) : a = sT x n % n ∧ b = sS x n % 4 ∧ c = sW x n % (6 * n + 1) := by
 obtain ⟨-, -, -, h1, h2, h3⟩ := sums_right h.sums
 rw [h.len] at h1 h2 h3
 exact ⟨h1.symm, h2.symm, h3.symm⟩
theorem gap_is {x : List UInt8} {n : Nat} {a b c : Int} (h : RowOk x n a b c) (p : Nat) (hp : p < n) : Gp.gapG (delW x p) a b = .ok x := by
 obtain ⟨h1, h2, -⟩ := h.is
 have := h.len
 subst this
 have := Gp.gap_back x p hp h.two (by have := h.most; omega) h.four
 rw [h1, h2]
 exact this
theorem swap_is {x : List UInt8} {n : Nat} {a b c : Int} (h : RowOk x n a b c) (p : Nat) (hp : p < n) (d : UInt8) (hd : codeOf d.toNat ≠ -1) : Sw.swapG (x.set p d) b c = .ok x := by
 obtain ⟨-, h2, h3⟩ := h.is
 have hl := h.len
 subst hl
 have h1 : OneE x (x.set p d) := .inr (.inl ⟨p, d, hp, hd, rfl⟩)
 have hy : Four (x.set p d) := h.four.one h1
 have hyl : (x.set p d).length = x.length := List.length_set
 obtain ⟨hr, -, -⟩ := sums_right h.sums
 have hR : 0 ≤ b ∧ b < 4 ∧ 0 ≤ c ∧ c ≤ 6 * x.length := by
  unfold rightB at hr
  simp only [Bool.and_eq_true, decide_eq_true_eq] at hr
  omega
 have hback : (x.set p d).set p (atB x p) = x := by rw [List.set_set, set_same x p hp]
 rcases Sw.swapG_cases (x.set p d) b c (by rw [hyl]; exact h.two) (by rw [hyl]; have := h.most; omega) hy hR.1 hR.2.1 hR.2.2.1 (by rw [hyl]; exact hR.2.2.2) with ⟨q, e, hq, he, hs, e1, e2⟩ | ⟨-, hno⟩
 · rw [hyl] at hq e1 e2
   rw [hs]
   have hz : ∀ k, k < x.length → codeOf (atB ((x.set p d).set q e) k).toNat ≠ -1 := fun k hk => hy.one (.inr (.inl ⟨q, e, by rw [hyl]; exact hq, he, rfl⟩)) k (by simpa using hk)
   rw [swap_same x p q d e h.two hp hq h.four hz (by rw [e1, h2]) (by rw [e2, h3])]
 · exfalso
   rw [hyl] at hno
   refine hno p (atB x p) hp (h.four p hp) ?_
   rw [hback]
   exact ⟨h2.symm, h3.symm⟩
theorem find_is {x : List UInt8} {n : Nat} {a b c : Int} (h : RowOk x n a b c) (p : Nat) (hp : p ≤ n) (d : UInt8) (hd : codeOf d.toNat ≠ -1) : ∃ q, Ex.findE (insW x p d) a b c = .ok q ∧ delW (insW x p d) q = x := by
 obtain ⟨h1, h2, h3⟩ := h.is
 have hl := h.len
 subst hl
 have ho : OneE x (insW x p d) := .inr (.inr (.inr ⟨p, d, hp, hd, rfl⟩))
 have hy : Four (insW x p d) := h.four.one ho
 have hyl := insW_length x p d hp
 obtain ⟨hr, -, -⟩ := sums_right h.sums
 have ht := h.two
 have hm := h.most
 have hnf : (-1 : Int) ∉ codesOf (insW x p d) := (Ex.fourL_iff _).1 hy
 have hn1 : (((insW x p d).length : Int) - 1) = (x.length : Int) := by rw [hyl]; omega
 have hfind : Ex.findE (insW x p d) a b c = match (List.range (insW x p d).length).find? (Ex.hitE (insW x p d) a b c) with
     | none => .error 130
     | some p => .ok p := by
  unfold Ex.findE
  rw [if_neg (by rw [hn1, hr]; simp; omega), if_neg hnf]
  cases (List.range (insW x p d).length).find? (Ex.hitE (insW x p d) a b c) <;> rfl
 have hs : ∀ q, Ex.hitE (insW x p d) a b c q = true ↔ (sT (delW (insW x p d) q) x.length % x.length = a ∧ sS (delW (insW x p d) q) x.length % 4 = b ∧ sW (delW (insW x p d) q) x.length % (6 * x.length + 1) = c) := by
  intro q
  unfold Ex.hitE Ex.s1G Ex.s2G Ex.s3G
  rw [hyl, Nat.add_sub_cancel]
  simp only [Bool.and_eq_true, beq_iff_eq]
 have hp1 : Ex.hitE (insW x p d) a b c p = true := by
  rw [hs, ins_del_same x p d hp]
  exact ⟨h1.symm, h2.symm, h3.symm⟩
 cases hq : (List.range (insW x p d).length).find? (Ex.hitE (insW x p d) a b c) with
 | none => exact absurd hp1 (by have := List.find?_eq_none.1 hq p (by simp; omega); simpa using this)
 | some q =>
   rw [hq] at hfind
   refine ⟨q, hfind, ?_⟩
   have hql : q < (insW x p d).length := by simpa using List.mem_of_find?_eq_some hq
   have hh := (hs q).1 (List.find?_some hq)
   have hdl := delW_length (insW x p d) q hql
   exact two_edits ht h.four ho (.inr (.inr (.inl ⟨q, hql, rfl⟩))) (by omega) (by rw [hh.1, h1]) (by rw [hh.2.1, h2]) (by rw [hh.2.2, h3])
theorem tail_is (H j : List UInt8) (F : List UInt8) : (H ++ (j ++ (F ++ F ++ F))).drop ((H ++ (j ++ (F ++ F ++ F))).length - F.length) = F := by
 have e : H ++ (j ++ (F ++ F ++ F)) = (H ++ j ++ F ++ F) ++ F := by simp
 rw [e, List.length_append, Nat.add_sub_cancel, List.drop_left]
theorem told_is {x : List UInt8} {n : Nat} {a b c : Int} (h : RowOk x n a b c) : toldG (fldL x a b c) n = some (a.toNat, b.toNat, c.toNat) := by
 have := told_fld h.sums (by rw [h.len]; exact h.most)
 rw [h.len] at this
 exact (toldG_iff _ _ _).2 this
theorem RowOk.pos {x : List UInt8} {n : Nat} {a b c : Int} (h : RowOk x n a b c) : (a.toNat : Int) = a ∧ (b.toNat : Int) = b ∧ (c.toNat : Int) = c := by
 obtain ⟨hr, -, -⟩ := sums_right h.sums
 obtain ⟨p1, p2, p3⟩ := right_nat hr
 exact ⟨int_nat p1, int_nat p2, int_nat p3⟩
def tailL (x : List UInt8) (a b c : Int) : List UInt8 := [juncL x (fldL x a b c)] ++ (fldL x a b c ++ fldL x a b c ++ fldL x a b c)
theorem word_tail (x : List UInt8) (a b c : Int) : wordL x (fldL x a b c) = x ++ tailL x a b c := List.append_assoc ..
theorem tail_len {x : List UInt8} {n : Nat} {a b c : Int} (h : RowOk x n a b c) : (tailL x a b c).length = 1 + 3 * longN n := by
 simp [tailL, fldL_length, h.len]; omega
theorem cls_four (i b : Nat) : codeOf (clsOf i b).toNat ≠ -1 := by
 unfold clsOf
 split <;> split <;> decide
theorem letters_fld (x : List UInt8) (a b c : Int) : lettersL (fldL x a b c) = fldL x a b c := by
 refine lettersL_four fun k hk => ?_
 unfold fldL fieldOf at hk ⊢
 rw [show atB ((packL a.toNat b.toNat c.toNat x.length).zipIdx.map fun y => clsOf y.2 y.1.toNat) k = clsOf k ((packL a.toNat b.toNat c.toNat x.length)[k]'(by simpa using hk)).toNat by simp [atB, show k < (packL a.toNat b.toNat c.toNat x.length).length by simpa using hk]]
 exact cls_four _ _
theorem letters_tail (x : List UInt8) (a b c : Int) : lettersL (tailL x a b c) = tailL x a b c := by
 unfold tailL
 rw [lettersL_app, lettersL_app, lettersL_app, letters_fld]
 congr 1
 unfold lettersL juncL
 simp only [List.map_cons, List.map_nil]
 rw [letter_fix (letterOf_ok _)]
theorem among_is {x : List UInt8} {n : Nat} {a b c : Int} (h : RowOk x n a b c) (H : List UInt8) (hH : (∃ p, p < n ∧ H = delW x p) ∨ (∃ p d, p < n ∧ codeOf d.toNat ≠ -1 ∧ H = x.set p d) ∨ (∃ p d, p ≤ n ∧ codeOf d.toNat ≠ -1 ∧ H = insW x p d)) : amongG (H ++ tailL x a b c) n = some x := by
 have ht := tail_len h
 have hF : (fldL x a b c).length = longN n := by rw [fldL_length, h.len]
 have hd : (H ++ tailL x a b c).drop ((H ++ tailL x a b c).length - longN n) = fldL x a b c := by
  rw [← hF]
  exact tail_is H [juncL x (fldL x a b c)] (fldL x a b c)
 have hL : wlongN n = n + 1 + 3 * longN n := rfl
 have hl := h.len
 have h2 := h.two
 obtain ⟨e1, e2, e3⟩ := h.pos
 unfold amongG
 rw [hd, told_is h]
 simp only [e1, e2, e3]
 rcases hH with ⟨p, hp, rfl⟩ | ⟨p, d, hp, hdd, rfl⟩ | ⟨p, d, hp, hdd, rfl⟩
 · have hdl := delW_length x p (by omega)
   rw [if_pos (by rw [List.length_append, ht]; omega), List.take_left' (by omega), gap_is h p hp]
   rfl
 · have hdl : (x.set p d).length = x.length := List.length_set
   rw [if_neg (by rw [List.length_append, ht]; omega), if_pos (by rw [List.length_append, ht]; omega), List.take_left' (by omega), swap_is h p hp d hdd]
   rfl
 · have hdl := insW_length x p d (by omega)
   obtain ⟨q, hq, hx⟩ := find_is h p hp d hdd
   rw [if_neg (by rw [List.length_append, ht]; omega), if_neg (by rw [List.length_append, ht]; omega), List.take_left' (by omega), hq]
   simp only [okO, Option.map_some, hx]
theorem mend_all {x : List UInt8} {n : Nat} {a b c : Int} (h : RowOk x n a b c) {y : List UInt8} (hy : dist (wordL x (fldL x a b c)) y ≤ 1) : mendG y n = some x := by
 have hnear : nearG x y = true := nearG_iff.2 ⟨_, h.wf, hy⟩
 obtain ⟨m, hm, hw⟩ := (dist_le_iff _ _ _).1 hy
 have hl := h.len
 have h2 := h.two
 have hwl : (wordL x (fldL x a b c)).length = wlongN n := by rw [wordL_length x _ (fldL_length _ _ _ _), hl]
 have hL : wlongN n = n + 1 + 3 * longN n := rfl
 have ha := dist_apart (wordL x (fldL x a b c)) y
 unfold mendG
 rw [if_neg (by omega)]
 by_cases h1 : nearG ((lettersL y).take n) y = true
 · rw [if_pos h1]
   have hlen : ((lettersL y).take n).length = x.length := by rw [List.length_take, lettersL_length]; omega
   rw [near_one h1 hnear hlen]
 · rw [if_neg h1]
   -- the edit is among the letters
   have hbehind : ∀ R : List UInt8, y = x ++ R → False := by
    rintro R rfl
    refine h1 ?_
    rw [lettersL_app, lettersL_four h.four, List.take_left' hl]
    exact hnear
   have hT := letters_tail x a b c
   have key : ∃ H, lettersL y = H ++ tailL x a b c ∧ ((∃ p, p < n ∧ H = delW x p) ∨ (∃ p d, p < n ∧ codeOf d.toNat ≠ -1 ∧ H = x.set p d) ∨ (∃ p d, p ≤ n ∧ codeOf d.toNat ≠ -1 ∧ H = insW x p d)) := by
    have hx : ∀ p, lettersL (x.take p) = x.take p := fun p => lettersL_four fun k hk => by
     have hk2 : k < p ∧ k < x.length := by rw [List.length_take] at hk; omega
     have e : atB (x.take p) k = atB x k := by simp [atB, hk2.1]
     rw [e]
     exact h.four k hk2.2
    have hx' : ∀ p, lettersL (x.drop p) = x.drop p := fun p => lettersL_four fun k hk => by
     rw [List.length_drop] at hk
     have e : atB (x.drop p) k = atB x (p + k) := by simp [atB]
     rw [e]
     exact h.four _ (by omega)
    have hc4 : ∀ c : UInt8, codeOf (if codeOf c.toNat = -1 then (65 : UInt8) else c).toNat ≠ -1 := fun c => by split <;> first | decide | assumption
    rcases step_cases hw hm with e | ⟨p, hp, e⟩ | ⟨p, d, hp, e⟩ | ⟨p, d, hp, e⟩
    · exact (hbehind (tailL x a b c) (by rw [e, word_tail])).elim
    · rw [word_tail] at e
      by_cases hpn : p < n
      · refine ⟨delW x p, ?_, .inl ⟨p, hpn, rfl⟩⟩
        rw [e, List.take_append_of_le_length (by omega), List.drop_append_of_le_length (by omega), ← List.append_assoc, lettersL_app, lettersL_app, hT, hx, hx']
        rfl
      · exact (hbehind ((tailL x a b c).take (p - x.length) ++ (tailL x a b c).drop (p + 1 - x.length)) (by
          rw [e, List.take_append, List.drop_append, List.take_of_length_le (by omega), List.drop_of_length_le (by omega)]; simp)).elim
    · rw [word_tail] at e
      by_cases hpn : p < n
      · refine ⟨insW x p (if codeOf d.toNat = -1 then 65 else d), ?_, .inr (.inr ⟨p, _, by omega, hc4 d, rfl⟩)⟩
        rw [e, List.take_append_of_le_length (by omega), List.drop_append_of_le_length (by omega), lettersL_app, hx]
        unfold insW
        show x.take p ++ lettersL (d :: (x.drop p ++ tailL x a b c)) = _
        rw [show d :: (x.drop p ++ tailL x a b c) = [d] ++ (x.drop p ++ tailL x a b c) from rfl, lettersL_app, lettersL_app, hx', hT]
        simp [lettersL]
      · exact (hbehind ((tailL x a b c).take (p - x.length) ++ d :: (tailL x a b c).drop (p - x.length)) (by
          rw [e, List.take_append, List.drop_append, List.take_of_length_le (by omega), List.drop_of_length_le (by omega)]; simp)).elim
    · rw [word_tail] at e
      by_cases hpn : p < n
      · refine ⟨x.set p (if codeOf d.toNat = -1 then 65 else d), ?_, .inr (.inl ⟨p, _, hpn, hc4 d, rfl⟩)⟩
        rw [e, List.take_append_of_le_length (by omega), List.drop_append_of_le_length (by omega), lettersL_app, hx, List.set_eq_take_append_cons_drop, if_pos (by omega)]
        rw [show d :: (x.drop (p + 1) ++ tailL x a b c) = [d] ++ (x.drop (p + 1) ++ tailL x a b c) from rfl, lettersL_app, lettersL_app, hx', hT]
        simp [lettersL]
      · exact (hbehind ((tailL x a b c).take (p - x.length) ++ d :: (tailL x a b c).drop (p + 1 - x.length)) (by
          rw [e, List.take_append, List.drop_append, List.take_of_length_le (by omega), List.drop_of_length_le (by omega)]; simp)).elim
   obtain ⟨H, hH, hh⟩ := key
   rw [hH, among_is h H hh]
   simp only [if_pos hnear]
end Go.Proofs.YtkibigbcdlilkaaGreatDoor
namespace Go.Proofs.YtkibigbcdlilkaaGreatDoor
open Go.RowKit Go.Shelf
attribute [local go_sem] Oper.semAt_some run_store_func
theorem slice_from (A : Option Addr) (n c lo : Nat) (hlo : lo ≤ n) (hn : n ≤ c) (h0 : A = none → c = 0) : ∃ A2, (∀ w, (Instr.sliceAt 22 (.slice A n c) (some (.int .i64 (lo : Nat))) none none).run Tryz.prog w = .ok (.slice A2 (n - lo) (c - lo)) w) ∧ (c ≠ lo → A2 = A.map (·.add lo)) := by
 cases A with
 | none =>
   have hc := h0 rfl
   obtain rfl : n = 0 := by omega
   obtain rfl : lo = 0 := by omega
   subst hc
   exact ⟨none, fun w => by kernel_rfl, fun h => absurd rfl h⟩
 | some ad =>
   by_cases h : c = lo
   · subst h
     obtain rfl : n = c := by omega
     refine ⟨some ad, fun w => ?_, fun h => absurd rfl h⟩
     simp [go_sem, Tryz.underlying22]
   · refine ⟨(some ad).map (·.add lo), fun w => ?_, fun _ => rfl⟩
     simp [go_sem, Tryz.underlying22, h, hlo]
theorem gap_err {y : List UInt8} {t s m : Int} (h : Gp.gapG y t s = .error m) : m ≠ 0 := by
 unfold Gp.gapG Gp.fitsG at h
 repeat' split at h
 all_goals first | (cases h; omega) | (simp_all; done) | skip
 all_goals (rename_i hh; repeat' split at hh)
 all_goals first | (cases hh; cases h; omega) | (cases hh)
theorem swap_err {y : List UInt8} {s u m : Int} (h : Sw.swapG y s u = .error m) : m ≠ 0 := by
 unfold Sw.swapG at h
 split at h
 · rename_i e he
   cases h
   exact Sw.findG_err y s u _ he
 · split at h
   · cases h
   · unfold Sw.byG at h
     split at h
     · cases h; omega
     · rcases Sw.sums_cases y with ⟨_, e⟩ | ⟨_, _, _, e⟩ | ⟨_, _, _, e⟩
       all_goals rw [e] at h
       · cases h; omega
       · cases h; omega
       · simp only at h
         split at h
         · cases h; omega
         · cases h
theorem find_err {y : List UInt8} {a b c m : Int} (h : Ex.findE y a b c = .error m) : m ≠ 0 := by
 unfold Ex.findE at h
 repeat' split at h
 all_goals first | (cases h; omega) | cases h
theorem long_most (n : Nat) (h : n ≤ 800) : longN n ≤ 1000 := by
 by_cases h2 : 2 ≤ n
 · have := tb_le n (by omega)
   have := wb_le n (by omega)
   unfold longN zb
   omega
 · rcases (show n = 0 ∨ n = 1 by omega) with rfl | rfl <;> decide +kernel
abbrev AmongIs (y : List UInt8) (n : Nat) (w : World) : Ending → World → Prop := fun e w' => Below w.heap.size w w' ∧ ((∃ x v, amongG y n = some x ∧ e = .returned v ∧ Sl eB w'.heap.size w' v x) ∨ (amongG y n = none ∧ e = .panicked noneC))
set_option maxRecDepth 100000 in
set_option maxHeartbeats 2000000 in
theorem among_none (y : List UInt8) (n lo : Nat) (h2 : 2 ≤ n) (h8 : n ≤ 800) (h1 : wlongN n ≤ y.length + 1) (h9 : y.length ≤ 5000) (hlo : lo = y.length - longN n) (ht : toldG (y.drop lo) n = none) (sv : Value) (w : World) (hTB : TabB w) (hS : Sl eB w.heap.size w sv y) :
    Calls Tryz.prog 63 #[sv, .int .i64 n] w (AmongIs y n w) := by
  have hlg := long_most n h8
  have hwl : wlongN n = n + 1 + 3 * longN n := rfl
  have hL := Long_yes n h2 (Nat.le_trans h8 (by decide)) w
  have hW := fun w => WLong_yes n h2 h8 hlg w
  have Hg := Lib.hid (show amongG y n = none by unfold amongG; rw [← hlo, ht])
  have hpos : 0 < y.length := by omega
  have hloy : longN n ≤ y.length := by omega
  generalize longN n = N at *
  generalize wlongN n = M at *
  obtain ⟨A, cap, rfl, hc, hcs⟩ := id hS
  obtain ⟨bk, off, rfl, -⟩ := hcs hpos
  clear hcs
  obtain ⟨A2, hsl, hA2⟩ := slice_from (some ⟨bk, off, none⟩) y.length cap lo (by omega) hc (fun e => by cases e)
  have hS2 := hS.from_ (p := lo) (by omega) A2 hA2
  have hsub : wrap64 ((y.length : Int) - (N : Int)) = (lo : Int) := by rw [Ex.wrap64_mid _ (by omega) (by omega)]; omega
  have Hn := Lib.hid (And.intro h9 h8)
  have Ht := Lib.hid ht
  clear hlo h9 hc hwl h1 ht hA2
  go_enter Tryz.func63, Tryz.ntmps63
  go_wp2_with fail
  go_at_call 39
  refine hL.mono ?_
  rintro e w1 ⟨rfl, hB1⟩
  have hTo := WTold_any _ (y.drop lo) n (by rw [List.length_drop]; have := Hn.out.1; omega) w1 (hTB.below hB1) (hS2.next hB1)
  clear hL
  go_wp2_with fail
  go_at_call 82
  refine hTo.mono ?_
  clear hTo
  rintro e w2 ⟨hB2, ⟨a', b', c', hok, rfl⟩ | ⟨hno, rfl⟩⟩
  · exact absurd ((toldG_iff _ _ _).2 hok) (by rw [Ht.out]; intro h; cases h)
  ·
    have hB2 := below_trans hB1 hB2
    have hr := Rowed.new w2 51 (c3 0 0 0)
    have hA3 := below_alloc w2 (.cells (c3 0 0 0) 51)
    have k0 := hr.cell 0
    have k1 := hr.cell 1
    have k2 := hr.cell 2
    have hB3 := below_trans hB2 hA3
    clear hA3
    go_wp2_with fail
    generalize w2.alloc (.cells (c3 0 0 0) 51) = w3 at *
    generalize w2.heap.size = g5 at *
    go_at_call 68
    refine (imust_not 130 (by omega) _).mono ?_
    rintro e w' ⟨rfl, rfl⟩
    exact ⟨rfl, hB3, .inr ⟨Hg.out, rfl⟩⟩
set_option maxRecDepth 100000 in
set_option maxHeartbeats 2000000 in
theorem among_gap (y : List UInt8) (n lo : Nat) (a b c p : Nat) (h2 : 2 ≤ n) (h8 : n ≤ 800) (h1 : y.length + 1 = wlongN n) (h9 : y.length ≤ 5000) (hlo : lo = y.length - longN n) (hp : p = n - 1) (ht : toldG (y.drop lo) n = some (a, b, c)) (sv : Value) (w : World) (hT : Tab w) (hTB : TabB w) (hS : Sl eB w.heap.size w sv y) :
    Calls Tryz.prog 63 #[sv, .int .i64 n] w (AmongIs y n w) := by
  have hlg := long_most n h8
  have hwl : wlongN n = n + 1 + 3 * longN n := rfl
  have hL := Long_yes n h2 (Nat.le_trans h8 (by decide)) w
  have hW := fun w => WLong_yes n h2 h8 hlg w
  have Hg := Lib.hid (show amongG y n = okO (Gp.gapG (y.take p) a b) by
   unfold amongG
   rw [← hlo, ht]
   simp only
   rw [if_pos h1]
   rw [← hp])
  have hpos : 0 < y.length := by omega
  have hloy : longN n ≤ y.length := by omega
  have hpy : p ≤ y.length := by omega
  generalize longN n = N at *
  generalize wlongN n = M at *
  obtain ⟨A, cap, rfl, hc, hcs⟩ := id hS
  obtain ⟨bk, off, rfl, -⟩ := hcs hpos
  clear hcs
  obtain ⟨A2, hsl, hA2⟩ := slice_from (some ⟨bk, off, none⟩) y.length cap lo (by omega) hc (fun e => by cases e)
  have hS2 := hS.from_ (p := lo) (by omega) A2 hA2
  have hsub : wrap64 ((y.length : Int) - (N : Int)) = (lo : Int) := by rw [Ex.wrap64_mid _ (by omega) (by omega)]; omega
  have hmore : wrap64 ((y.length : Int) - (M : Int)) = -1 := by rw [Ex.wrap64_mid _ (by omega) (by omega)]; omega
  have hnm : wrap64 ((n : Int) + -1) = (p : Int) := by rw [Ex.wrap64_mid _ (by omega) (by omega)]; omega
  have hpc : p ≤ cap := Nat.le_trans hpy hc
  have hS3 := hS.upto (p := p) hpy
  have hnp : (n : Int) + -1 = (p : Int) := by omega
  have Hn := Lib.hid (And.intro h9 h8)
  have Ht := Lib.hid ht
  clear hp
  clear hlo h9 hc hwl h1 ht hA2
  go_enter Tryz.func63, Tryz.ntmps63
  go_wp2_with fail
  go_at_call 39
  refine hL.mono ?_
  rintro e w1 ⟨rfl, hB1⟩
  have hTo := WTold_any _ (y.drop lo) n (by rw [List.length_drop]; have := Hn.out.1; omega) w1 (hTB.below hB1) (hS2.next hB1)
  clear hL
  go_wp2_with fail
  go_at_call 82
  refine hTo.mono ?_
  clear hTo
  rintro e w2 ⟨hB2, ⟨a', b', c', hok, rfl⟩ | ⟨hno, rfl⟩⟩
  ·
    obtain ⟨rfl, rfl, rfl⟩ : a' = a ∧ b' = b ∧ c' = c := by
     have := (toldG_iff _ _ _).2 hok
     rw [Ht.out] at this
     simpa [eq_comm] using this
    clear hok
    have hB2 := below_trans hB1 hB2
    have hr := Rowed.new w2 51 (c3 a' b' c')
    have hA3 := below_alloc w2 (.cells (c3 a' b' c') 51)
    have k0 := hr.cell 0
    have k1 := hr.cell 1
    have k2 := hr.cell 2
    have hB3 := below_trans hB2 hA3
    clear hA3
    go_wp2_with fail
    generalize w2.alloc (.cells (c3 a' b' c') 51) = w3 at *
    generalize w2.heap.size = g5 at *
    go_at_call 68
    refine (imust_ok _).mono ?_
    rintro e w' ⟨rfl, rfl⟩
    go_wp2_with fail
    go_at_call 23
    refine (hW _).mono ?_
    clear hW
    rintro e w4 ⟨rfl, hB4⟩
    have hr := hr.below hB4 hr.lt
    have hB4 := below_trans hB3 hB4
    have k0 := hr.cell 0
    have k1 := hr.cell 1
    have k2 := hr.cell 2
    have hF := Gp.Gap_any (y.take p) a' b' (Gp.insOk_all _ _ _) (.slice (some ⟨bk, off, none⟩) p cap) w4 (hT.below hB4) (hS3.next hB4) (by rw [List.length_take]; have := Hn.out.1; omega)
    go_wp2_with fail
    go_at_call 83
    refine hF.mono ?_
    clear hF
    rintro e w5 ⟨hB5, ⟨x, v, hg, rfl, hv⟩ | ⟨m, hg, rfl⟩⟩
    · have hB5 := below_trans hB4 hB5
      rw [hg] at Hg
      clear k0 k1 k2 hr
      go_wp2_with (go_at_call 68; refine (imust_ok _).mono ?_; rintro e w' ⟨rfl, rfl⟩)
      go_ret
      exact ⟨hB5, .inl ⟨_, _, Hg.out, rfl, hv⟩⟩
    · have hB5 := below_trans hB4 hB5
      have hm := gap_err hg
      rw [hg] at Hg
      clear k0 k1 k2 hr
      go_wp2_with fail
      go_at_call 68
      refine (imust_not m hm _).mono ?_
      rintro e w' ⟨rfl, rfl⟩
      exact ⟨rfl, hB5, .inr ⟨Hg.out, rfl⟩⟩
  · exact absurd ((toldG_none _ _).2 hno) (by rw [Ht.out]; intro h; cases h)
set_option maxRecDepth 100000 in
set_option maxHeartbeats 2000000 in
theorem among_swap (y : List UInt8) (n lo : Nat) (a b c p : Nat) (h2 : 2 ≤ n) (h8 : n ≤ 800) (h1 : y.length = wlongN n) (h9 : y.length ≤ 5000) (hlo : lo = y.length - longN n) (hp : p = n) (ht : toldG (y.drop lo) n = some (a, b, c)) (sv : Value) (w : World) (hT : Tab w) (hTB : TabB w) (hS : Sl eB w.heap.size w sv y) :
    Calls Tryz.prog 63 #[sv, .int .i64 n] w (AmongIs y n w) := by
  have hlg := long_most n h8
  have hwl : wlongN n = n + 1 + 3 * longN n := rfl
  have hL := Long_yes n h2 (Nat.le_trans h8 (by decide)) w
  have hW := fun w => WLong_yes n h2 h8 hlg w
  have Hg := Lib.hid (show amongG y n = okO (Sw.swapG (y.take p) b c) by
   unfold amongG
   rw [← hlo, ht]
   simp only
   rw [if_neg (by omega), if_pos h1]
   rw [← hp])
  have hpos : 0 < y.length := by omega
  have hloy : longN n ≤ y.length := by omega
  have hpy : p ≤ y.length := by omega
  generalize longN n = N at *
  generalize wlongN n = M at *
  obtain ⟨A, cap, rfl, hc, hcs⟩ := id hS
  obtain ⟨bk, off, rfl, -⟩ := hcs hpos
  clear hcs
  obtain ⟨A2, hsl, hA2⟩ := slice_from (some ⟨bk, off, none⟩) y.length cap lo (by omega) hc (fun e => by cases e)
  have hS2 := hS.from_ (p := lo) (by omega) A2 hA2
  have hsub : wrap64 ((y.length : Int) - (N : Int)) = (lo : Int) := by rw [Ex.wrap64_mid _ (by omega) (by omega)]; omega
  have hmore : wrap64 ((y.length : Int) - (M : Int)) = 0 := by rw [Ex.wrap64_mid _ (by omega) (by omega)]; omega
  have hnm : wrap64 ((n : Int) + 0) = (p : Int) := by rw [Ex.wrap64_mid _ (by omega) (by omega)]; omega
  have hpc : p ≤ cap := Nat.le_trans hpy hc
  have hS3 := hS.upto (p := p) hpy
  subst p
  have Hn := Lib.hid (And.intro h9 h8)
  have Ht := Lib.hid ht
  clear hlo h9 hc hwl h1 ht hA2
  go_enter Tryz.func63, Tryz.ntmps63
  go_wp2_with fail
  go_at_call 39
  refine hL.mono ?_
  rintro e w1 ⟨rfl, hB1⟩
  have hTo := WTold_any _ (y.drop lo) n (by rw [List.length_drop]; have := Hn.out.1; omega) w1 (hTB.below hB1) (hS2.next hB1)
  clear hL
  go_wp2_with fail
  go_at_call 82
  refine hTo.mono ?_
  clear hTo
  rintro e w2 ⟨hB2, ⟨a', b', c', hok, rfl⟩ | ⟨hno, rfl⟩⟩
  ·
    obtain ⟨rfl, rfl, rfl⟩ : a' = a ∧ b' = b ∧ c' = c := by
     have := (toldG_iff _ _ _).2 hok
     rw [Ht.out] at this
     simpa [eq_comm] using this
    clear hok
    have hB2 := below_trans hB1 hB2
    have hr := Rowed.new w2 51 (c3 a' b' c')
    have hA3 := below_alloc w2 (.cells (c3 a' b' c') 51)
    have k0 := hr.cell 0
    have k1 := hr.cell 1
    have k2 := hr.cell 2
    have hB3 := below_trans hB2 hA3
    clear hA3
    go_wp2_with fail
    generalize w2.alloc (.cells (c3 a' b' c') 51) = w3 at *
    generalize w2.heap.size = g5 at *
    go_at_call 68
    refine (imust_ok _).mono ?_
    rintro e w' ⟨rfl, rfl⟩
    go_wp2_with fail
    go_at_call 23
    refine (hW _).mono ?_
    clear hW
    rintro e w4 ⟨rfl, hB4⟩
    have hr := hr.below hB4 hr.lt
    have hB4 := below_trans hB3 hB4
    have k0 := hr.cell 0
    have k1 := hr.cell 1
    have k2 := hr.cell 2
    have hF := Sw.Swap_any (y.take n) b' c' (.slice (some ⟨bk, off, none⟩) n cap) w4 (hT.below hB4) (hS3.next hB4) (by rw [List.length_take]; have := Hn.out.1; omega)
    go_wp2_with fail
    go_at_call 84
    refine hF.mono ?_
    clear hF
    rintro e w5 ⟨hB5, ⟨x, v, hg, rfl, hv⟩ | ⟨m, hg, rfl⟩⟩
    · have hB5 := below_trans hB4 hB5
      rw [hg] at Hg
      clear k0 k1 k2 hr
      go_wp2_with (go_at_call 68; refine (imust_ok _).mono ?_; rintro e w' ⟨rfl, rfl⟩)
      go_ret
      exact ⟨hB5, .inl ⟨_, _, Hg.out, rfl, hv⟩⟩
    · have hB5 := below_trans hB4 hB5
      have hm := swap_err hg
      rw [hg] at Hg
      clear k0 k1 k2 hr
      go_wp2_with fail
      go_at_call 68
      refine (imust_not m hm _).mono ?_
      rintro e w' ⟨rfl, rfl⟩
      exact ⟨rfl, hB5, .inr ⟨Hg.out, rfl⟩⟩
  · exact absurd ((toldG_none _ _).2 hno) (by rw [Ht.out]; intro h; cases h)
set_option maxRecDepth 100000 in
set_option maxHeartbeats 2000000 in
theorem among_more (y : List UInt8) (n lo : Nat) (a b c p : Nat) (h2 : 2 ≤ n) (h8 : n ≤ 800) (h1 : y.length = wlongN n + 1) (h9 : y.length ≤ 5000) (hlo : lo = y.length - longN n) (hp : p = n + 1) (ht : toldG (y.drop lo) n = some (a, b, c)) (sv : Value) (w : World) (hT : Tab w) (hTB : TabB w) (hS : Sl eB w.heap.size w sv y) :
    Calls Tryz.prog 63 #[sv, .int .i64 n] w (AmongIs y n w) := by
  have hlg := long_most n h8
  have hwl : wlongN n = n + 1 + 3 * longN n := rfl
  have hL := Long_yes n h2 (Nat.le_trans h8 (by decide)) w
  have hW := fun w => WLong_yes n h2 h8 hlg w
  have Hg := Lib.hid (show amongG y n = (okO (Ex.findE (y.take p) a b c)).map fun q => delW (y.take p) q by
   unfold amongG
   rw [← hlo, ht]
   simp only
   rw [if_neg (by omega), if_neg (by omega)]
   rw [← hp])
  have hpos : 0 < y.length := by omega
  have hloy : longN n ≤ y.length := by omega
  have hpy : p ≤ y.length := by omega
  generalize longN n = N at *
  generalize wlongN n = M at *
  obtain ⟨A, cap, rfl, hc, hcs⟩ := id hS
  obtain ⟨bk, off, rfl, -⟩ := hcs hpos
  clear hcs
  obtain ⟨A2, hsl, hA2⟩ := slice_from (some ⟨bk, off, none⟩) y.length cap lo (by omega) hc (fun e => by cases e)
  have hS2 := hS.from_ (p := lo) (by omega) A2 hA2
  have hsub : wrap64 ((y.length : Int) - (N : Int)) = (lo : Int) := by rw [Ex.wrap64_mid _ (by omega) (by omega)]; omega
  have hmore : wrap64 ((y.length : Int) - (M : Int)) = 1 := by rw [Ex.wrap64_mid _ (by omega) (by omega)]; omega
  have hnm : wrap64 ((n : Int) + 1) = (p : Int) := by rw [Ex.wrap64_mid _ (by omega) (by omega)]; omega
  have hpc : p ≤ cap := Nat.le_trans hpy hc
  have hS3 := hS.upto (p := p) hpy
  have hnp : (n : Int) + 1 = (p : Int) := by omega
  have Hn := Lib.hid (And.intro h9 h8)
  have Ht := Lib.hid ht
  clear hp
  clear hlo h9 hc hwl h1 ht hA2
  go_enter Tryz.func63, Tryz.ntmps63
  go_wp2_with fail
  go_at_call 39
  refine hL.mono ?_
  rintro e w1 ⟨rfl, hB1⟩
  have hTo := WTold_any _ (y.drop lo) n (by rw [List.length_drop]; have := Hn.out.1; omega) w1 (hTB.below hB1) (hS2.next hB1)
  clear hL
  go_wp2_with fail
  go_at_call 82
  refine hTo.mono ?_
  clear hTo
  rintro e w2 ⟨hB2, ⟨a', b', c', hok, rfl⟩ | ⟨hno, rfl⟩⟩
  ·
    obtain ⟨rfl, rfl, rfl⟩ : a' = a ∧ b' = b ∧ c' = c := by
     have := (toldG_iff _ _ _).2 hok
     rw [Ht.out] at this
     simpa [eq_comm] using this
    clear hok
    have hB2 := below_trans hB1 hB2
    have hr := Rowed.new w2 51 (c3 a' b' c')
    have hA3 := below_alloc w2 (.cells (c3 a' b' c') 51)
    have k0 := hr.cell 0
    have k1 := hr.cell 1
    have k2 := hr.cell 2
    have hB3 := below_trans hB2 hA3
    clear hA3
    go_wp2_with fail
    generalize w2.alloc (.cells (c3 a' b' c') 51) = w3 at *
    generalize w2.heap.size = g5 at *
    go_at_call 68
    refine (imust_ok _).mono ?_
    rintro e w' ⟨rfl, rfl⟩
    go_wp2_with fail
    go_at_call 23
    refine (hW _).mono ?_
    clear hW
    rintro e w4 ⟨rfl, hB4⟩
    have hr := hr.below hB4 hr.lt
    have hB4 := below_trans hB3 hB4
    have k0 := hr.cell 0
    have k1 := hr.cell 1
    have k2 := hr.cell 2
    have hF := Ex.EFind_any (y.take p) a' b' c' (by rw [List.length_take]; have := Hn.out.1; omega) (.slice (some ⟨bk, off, none⟩) p cap) w4 (hT.below hB4) (hS3.next hB4)
    go_wp2_with fail
    go_at_call 85
    refine hF.mono ?_
    clear hF
    rintro e w5 ⟨hB5, ⟨q, v, hg, rfl, hv⟩ | ⟨m, hg, rfl⟩⟩
    · have hB5 := below_trans hB4 hB5
      rw [hg] at Hg
      clear k0 k1 k2 hr
      go_wp2_with (go_at_call 68; refine (imust_ok _).mono ?_; rintro e w' ⟨rfl, rfl⟩)
      go_ret
      exact ⟨hB5, .inl ⟨_, _, Hg.out, rfl, hv⟩⟩
    · have hB5 := below_trans hB4 hB5
      have hm := find_err hg
      rw [hg] at Hg
      clear k0 k1 k2 hr
      go_wp2_with fail
      go_at_call 68
      refine (imust_not m hm _).mono ?_
      rintro e w' ⟨rfl, rfl⟩
      exact ⟨rfl, hB5, .inr ⟨Hg.out, rfl⟩⟩
  · exact absurd ((toldG_none _ _).2 hno) (by rw [Ht.out]; intro h; cases h)
theorem among_any (y : List UInt8) (n : Nat) (h2 : 2 ≤ n) (h8 : n ≤ 800) (h1 : wlongN n ≤ y.length + 1) (h3 : y.length ≤ wlongN n + 1) (sv : Value) (w : World) (hT : Tab w) (hTB : TabB w) (hS : Sl eB w.heap.size w sv y) :
    Calls Tryz.prog 63 #[sv, .int .i64 n] w (AmongIs y n w) := by
  have hlg := long_most n h8
  have hwl : wlongN n = n + 1 + 3 * longN n := rfl
  have h9 : y.length ≤ 5000 := by omega
  cases ht : toldG (y.drop (y.length - longN n)) n with
  | none => exact among_none y n _ h2 h8 h1 h9 rfl ht sv w hTB hS
  | some s =>
    obtain ⟨a, b, c⟩ := s
    rcases (show y.length + 1 = wlongN n ∨ y.length = wlongN n ∨ y.length = wlongN n + 1 by omega) with e | e | e
    · exact among_gap y n _ a b c _ h2 h8 e h9 rfl rfl ht sv w hT hTB hS
    · exact among_swap y n _ a b c _ h2 h8 e h9 rfl rfl ht sv w hT hTB hS
    · exact among_more y n _ a b c _ h2 h8 e h9 rfl rfl ht sv w hT hTB hS
end Go.Proofs.YtkibigbcdlilkaaGreatDoor
