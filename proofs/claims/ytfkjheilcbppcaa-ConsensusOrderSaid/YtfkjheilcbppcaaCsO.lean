/- Mathematics of consensus: the reference's length, rows turned about. Of no program. -/
import Derived.Test.YtfkjheilcbppcaaCsN
namespace Go.Proofs.Ytfkjheilcbppcaa
open Go.RowKit

/-- One more length: the most, the least one of these. -/
def refS (s x : Nat × Nat) : Nat × Nat := if s.2 < x.2 ∨ (x.2 = s.2 ∧ x.1 < s.1) then x else s
def refF (L : List (List UInt8)) (k : Nat) : Nat × Nat := (L.take k).foldl (fun s r => refS s (r.length, cntL L r.length)) (0, 0)
theorem refF_zero (L : List (List UInt8)) : refF L 0 = (0, 0) := rfl
theorem refF_succ (L : List (List UInt8)) (k : Nat) (h : k < L.length) : refF L (k + 1) = refS (refF L k) (L[k].length, cntL L L[k].length) := by
  unfold refF
  rw [List.take_succ_eq_append_getElem h, List.foldl_append]
  rfl
theorem refF_inv (L : List (List UInt8)) : ∀ k, k ≤ L.length → ((k = 0 ∧ refF L k = (0, 0)) ∨ (0 < k ∧ 0 < (refF L k).2 ∧ cntL L (refF L k).1 = (refF L k).2)) ∧ ∀ j (hj : j < L.length), j < k → cntL L L[j].length < (refF L k).2 ∨ (cntL L L[j].length = (refF L k).2 ∧ (refF L k).1 ≤ L[j].length) := by
  intro k
  induction k with
  | zero => intro _; exact ⟨.inl ⟨rfl, rfl⟩, fun j _ h => absurd h (by omega)⟩
  | succ k ih =>
    intro hk
    obtain ⟨h1, h2⟩ := ih (by omega)
    have hp : 0 < cntL L L[k].length := cntL_pos.2 ⟨L[k], List.getElem_mem _, rfl⟩
    rw [refF_succ L k (by omega)]
    unfold refS
    by_cases hb : (refF L k).2 < cntL L L[k].length ∨ (cntL L L[k].length = (refF L k).2 ∧ L[k].length < (refF L k).1)
    · rw [if_pos hb]
      refine ⟨.inr ⟨by omega, hp, rfl⟩, fun j hj hjk => ?_⟩
      show _ < cntL L L[k].length ∨ (_ = cntL L L[k].length ∧ L[k].length ≤ _)
      by_cases e : j = k
      · subst e
        exact .inr ⟨rfl, Nat.le_refl _⟩
      · have := h2 j hj (by omega)
        omega
    · rw [if_neg hb]
      refine ⟨.inr ?_, fun j hj hjk => ?_⟩
      · rcases h1 with ⟨rfl, e⟩ | ⟨h3, h4, h5⟩
        · rw [e] at hb
          exact absurd (show (0 < cntL L L[0].length ∨ _) from .inl hp) hb
        · exact ⟨by omega, h4, h5⟩
      · by_cases e : j = k
        · subst e
          omega
        · exact h2 j hj (by omega)
theorem refF_is (L : List (List UInt8)) : refF L L.length = lenG L := by
  by_cases h : L = []
  · subst h; rfl
  · have hl : 0 < L.length := List.length_pos_iff.2 h
    obtain ⟨h1, h2⟩ := refF_inv L L.length (Nat.le_refl _)
    rcases h1 with ⟨e, -⟩ | ⟨-, h3, h4⟩
    · omega
    · refine (lenG_eq h3 h4 (fun m => ?_) (fun m e => ?_)).symm ▸ rfl
      · by_cases hm : 0 < cntL L m
        · obtain ⟨r, hr, rfl⟩ := cntL_pos.1 hm
          obtain ⟨j, hj, rfl⟩ := List.getElem_of_mem hr
          have := h2 j hj hj
          omega
        · omega
      · obtain ⟨r, hr, rfl⟩ := cntL_pos.1 (show 0 < cntL L m by omega)
        obtain ⟨j, hj, rfl⟩ := List.getElem_of_mem hr
        have := h2 j hj hj
        omega
theorem refF_le (L : List (List UInt8)) (m : Nat) (hm : ∀ r ∈ L, r.length ≤ m) (k : Nat) (hk : k ≤ L.length) : (refF L k).1 ≤ m ∧ (refF L k).2 ≤ L.length := by
  induction k with
  | zero => exact ⟨Nat.zero_le _, Nat.zero_le _⟩
  | succ k ih =>
    have h1 := ih (by omega)
    rw [refF_succ L k (by omega)]
    unfold refS
    split
    · exact ⟨hm _ (List.getElem_mem _), List.countP_le_length⟩
    · exact h1
/-- How many of the first rows are so long. -/
theorem cntL_take (L : List (List UInt8)) (n k : Nat) (h : k < L.length) : cntL (L.take (k + 1)) n = cntL (L.take k) n + if L[k].length = n then 1 else 0 := by
  unfold cntL
  rw [List.take_succ_eq_append_getElem h, List.countP_append, List.countP_singleton]
  by_cases e : L[k].length = n <;> simp [e]
theorem cntC_take (L : List (List UInt8)) (n i c k : Nat) (h : k < L.length) : cntC (L.take (k + 1)) n i c = cntC (L.take k) n i c + if L[k].length = n ∧ ((L[k][i]?).getD 0).toNat = c then 1 else 0 := by
  unfold cntC
  rw [List.take_succ_eq_append_getElem h, List.countP_append, List.countP_singleton]
  by_cases e : L[k].length = n <;> by_cases e2 : ((L[k][i]?).getD 0).toNat = c <;> simp [e, e2]
theorem cntL_all (L : List (List UInt8)) (n k : Nat) : cntL (L.take k) n ≤ k := by
  unfold cntL
  have h1 := List.countP_le_length (p := fun r : List UInt8 => r.length == n) (l := L.take k)
  have h2 : (L.take k).length ≤ k := by rw [List.length_take]; omega
  omega
theorem cntC_all (L : List (List UInt8)) (n i c k : Nat) : cntC (L.take k) n i c ≤ k := Nat.le_trans (cntC_le _ _ _ _) (cntL_all L n k)
/-- The columns' fold up to a byte. -/
def colF (L : List (List UInt8)) (n i k : Nat) : Nat × Nat := mostF ((List.range k).map fun c => (c, cntC L n i c)) (0, 0)
theorem colF_zero (L : List (List UInt8)) (n i : Nat) : colF L n i 0 = (0, 0) := rfl
theorem colF_succ (L : List (List UInt8)) (n i k : Nat) : colF L n i (k + 1) = if (colF L n i k).2 < cntC L n i k then (k, cntC L n i k) else colF L n i k := by
  unfold colF
  rw [List.range_succ, List.map_append, List.map_cons, List.map_nil, mostF_snoc]
theorem colF_all (L : List (List UInt8)) (i : Nat) : colF L (lenG L).1 i 256 = colG L i := rfl
theorem colF_le (L : List (List UInt8)) (n i : Nat) : ∀ k, k ≤ 256 → (colF L n i k).1 ≤ 255 ∧ (colF L n i k).2 ≤ L.length := by
  intro k
  induction k with
  | zero => intro _; exact ⟨Nat.zero_le _, Nat.zero_le _⟩
  | succ k ih =>
    intro hk
    rw [colF_succ]
    split
    · exact ⟨by show k ≤ 255; omega, by show cntC L n i k ≤ _; exact List.countP_le_length⟩
    · exact ih (by omega)
theorem ofG_take (L : List (List UInt8)) (k : Nat) (h : k < (lenG L).1) : (ofG L).take (k + 1) = (ofG L).take k ++ [UInt8.ofNat (colG L k).1] := by
  rw [List.take_succ_eq_append_getElem (by rw [ofG_length]; exact h)]
  simp [ofG]
/-- Rows turned by a number. -/
theorem turned_perm {α : Type} (L : List α) (f : Nat) : (L.drop f ++ L.take f).Perm L := by
  refine List.perm_append_comm.trans ?_
  rw [List.take_append_drop]
end Go.Proofs.Ytfkjheilcbppcaa
