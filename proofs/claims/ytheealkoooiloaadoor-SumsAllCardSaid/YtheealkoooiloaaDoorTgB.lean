/- Mathematics: of words with the same sums none two have a word in common that each has with one letter left out. -/
import Derived.Test.YtheealkoooiloaaDoorTgA
namespace Go.Proofs.YtheealkoooiloaaDoor
open Go.RowKit Go.Shelf

/-- A word without a letter; with one more. -/
def delW (x : List UInt8) (i : Nat) : List UInt8 := x.take i ++ x.drop (i + 1)
def insW (z : List UInt8) (t : Nat) (b : UInt8) : List UInt8 := z.take t ++ [b] ++ z.drop t
theorem delW_length (x : List UInt8) (i : Nat) (h : i < x.length) : (delW x i).length + 1 = x.length := by simp [delW]; omega
theorem insW_length (z : List UInt8) (t : Nat) (b : UInt8) (h : t ≤ z.length) : (insW z t b).length = z.length + 1 := by simp [insW]; omega
theorem atB_del (x : List UInt8) (i k : Nat) (h : i < x.length) : atB (delW x i) k = if k < i then atB x k else atB x (k + 1) := by
  have hl : (x.take i).length = i := by simp; omega
  unfold delW
  split
  · rename_i hk
    rw [atB_append_left _ _ (by omega)]
    simp only [atB, List.getElem?_take, if_pos hk]
  · rw [atB_append_right _ _ (by omega), hl, atB_drop, show i + 1 + (k - i) = k + 1 by omega]
theorem atB_ins (z : List UInt8) (t k : Nat) (b : UInt8) (h : t ≤ z.length) : atB (insW z t b) k = if k < t then atB z k else if k = t then b else atB z (k - 1) := by
  have hl : (z.take t).length = t := by simp; omega
  unfold insW
  rw [List.append_assoc]
  split
  · rename_i hk
    rw [atB_append_left _ _ (by omega)]
    simp only [atB, List.getElem?_take, if_pos hk]
  · rw [atB_append_right _ _ (by omega), hl]
    split
    · rename_i e
      rw [e, Nat.sub_self]
      rfl
    · rw [atB_append_right _ _ (by simp; omega), atB_drop]
      congr 1
      simp
      omega
/-- The sum of a word's codes. -/
def csum (l : List UInt8) : Int := (l.map fun c => codeOf c.toNat).sum
theorem csum_app (l r : List UInt8) : csum (l ++ r) = csum l + csum r := by simp [csum]
theorem csum_one (b : UInt8) : csum [b] = codeOf b.toNat := by simp [csum]
theorem sS_take (l : List UInt8) (k : Nat) (h : k ≤ l.length) : sS l k = csum (l.take k) := by
  induction k with
  | zero => simp [sS, csum]
  | succ k ih =>
    have hk : k < l.length := by omega
    rw [sS, ih (by omega), List.take_succ_eq_append_getElem hk, csum_app, csum_one]
    congr 3
    simp [atB, hk]
theorem sS_all (l : List UInt8) : sS l l.length = csum l := by rw [sS_take l _ (Nat.le_refl _), List.take_length]
theorem csum_del (x : List UInt8) (i : Nat) (h : i < x.length) : csum x = csum (delW x i) + codeOf (atB x i).toNat := by
  have e : x = x.take i ++ [x[i]] ++ x.drop (i + 1) := by
    rw [List.append_assoc, List.singleton_append, ← List.drop_eq_getElem_cons h, List.take_append_drop]
  have ea : atB x i = x[i] := by simp [atB, h]
  rw [ea]
  conv => lhs; rw [e]
  rw [delW, csum_app, csum_app, csum_app, csum_one]
  omega
theorem csum_ins (z : List UInt8) (t : Nat) (b : UInt8) : csum (insW z t b) = csum z + codeOf b.toNat := by
  have e : csum z = csum (z.take t) + csum (z.drop t) := by rw [← csum_app, List.take_append_drop]
  rw [insW, csum_app, csum_app, csum_one, e]
  omega
theorem gap_same (x : List UInt8) (i t : Nat) (b : UInt8) (hi : i < x.length) (ht : t < x.length) (hx : ∀ k, k < x.length → codeOf (atB x k).toNat ≠ -1) (hy : ∀ k, k < x.length → codeOf (atB (insW (delW x i) t b) k).toNat ≠ -1)
    (eT : sT (insW (delW x i) t b) x.length % x.length = sT x x.length % x.length) (eS : sS (insW (delW x i) t b) x.length % 4 = sS x x.length % 4) : insW (delW x i) t b = x := by
  have hdl := delW_length x i hi
  have hyl : (insW (delW x i) t b).length = x.length := by rw [insW_length _ _ _ (by omega), hdl]
  have hb : codeOf b.toNat ≠ -1 := by
    have := hy t ht
    rw [atB_ins _ _ _ _ (by omega), if_neg (by omega), if_pos rfl] at this
    exact this
  have hbx : b = atB x i := by
    have h1 := sS_all (insW (delW x i) t b)
    rw [hyl] at h1
    rw [h1, sS_all, csum_ins, csum_del x i hi] at eS
    have h2 := code_bound (hx i hi)
    have h3 := code_bound hb
    have h4 : csum (delW x i) + codeOf b.toNat = (csum (delW x i) + codeOf (atB x i).toNat) + (codeOf b.toNat - codeOf (atB x i).toNat) := by omega
    rw [h4] at eS
    have h5 := mod_zero eS (by omega) (by omega) (by omega)
    exact code_inj (by omega) hb
  have hay : ∀ k, atB (insW (delW x i) t b) k = if k < t then (if k < i then atB x k else atB x (k + 1)) else if k = t then atB x i else (if k - 1 < i then atB x (k - 1) else atB x (k - 1 + 1)) := by
    intro k
    rw [atB_ins _ _ _ _ (by omega), atB_del x i k hi, atB_del x i (k - 1) hi, hbx]
  generalize insW (delW x i) t b = y at *
  rcases Nat.lt_trichotomy i t with h | h | h
  · refine shifted_eq (i := i) (j := t) ⟨h, fun k hk => ?_, fun k hk => ?_, fun k h1 h2 => ?_, ?_⟩ x.length rfl hyl ht eT
    · rw [hay, if_pos (by omega), if_pos hk]
    · rw [hay, if_neg (by omega), if_neg (by omega), if_neg (by omega), Nat.sub_add_cancel (by omega)]
    · rw [hay, if_pos h2, if_neg (by omega)]
    · rw [hay, if_neg (by omega), if_pos rfl]
  · subst h
    have hat : ∀ k, atB y k = atB x k := by
      intro k
      rw [hay]
      by_cases h1 : k < i
      · rw [if_pos h1, if_pos h1]
      · rw [if_neg h1]
        by_cases h2 : k = i
        · rw [if_pos h2, h2]
        · rw [if_neg h2, if_neg (by omega), Nat.sub_add_cancel (by omega)]
    apply List.ext_getElem (by omega)
    intro k h1 h2
    have := hat k
    simp only [atB, List.getElem?_eq_getElem h1, List.getElem?_eq_getElem h2, Option.getD_some] at this
    exact this
  · refine (shifted_eq (x := y) (y := x) (i := t) (j := i) ⟨h, fun k hk => ?_, fun k hk => ?_, fun k h1 h2 => ?_, ?_⟩ x.length hyl rfl hi eT.symm).symm
    · rw [hay, if_pos hk, if_pos (by omega)]
    · rw [hay, if_neg (by omega), if_neg (by omega), if_neg (by omega), Nat.sub_add_cancel (by omega)]
    · rw [hay, if_neg (by omega), if_neg (by omega), Nat.add_sub_cancel, if_pos h2]
    · rw [hay, if_neg (by omega), if_pos rfl]
end Go.Proofs.YtheealkoooiloaaDoor
