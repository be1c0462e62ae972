import Derived.Test.YtcngnjkpnmpcpaaDoorNsEZ
namespace Go.Proofs.YtcngnjkpnmpcpaaDoor
def rowOf (l : List Int) : List UInt8 := l.map letterOf
theorem mod4_cases (n : Int) : n % 4 = 0 ∨ n % 4 = 1 ∨ n % 4 = 2 ∨ n % 4 = 3 := by omega
theorem codeOf_letterOf (n : Int) : codeOf (letterOf n).toNat = n % 4 := by
 rcases mod4_cases n with e | e | e | e <;> simp [letterOf, e, codeOf]
theorem letterOf_congr {a b : Int} (h : a % 4 = b % 4) : letterOf a = letterOf b := by simp [letterOf, h]
theorem letterOf_inj {a b : Int} (h : letterOf a = letterOf b) : a % 4 = b % 4 := by rw [← codeOf_letterOf, ← codeOf_letterOf, h]
theorem codesOf_rowOf (l : List Int) : codesOf (rowOf l) = l.map (· % 4) := by
 simp only [codesOf, rowOf, List.map_map]
 apply List.map_congr_left
 intro n _
 exact codeOf_letterOf n
def turn (l : List Int) : List Int := l.reverse.map fun n => 3 - n
theorem turn_length (l : List Int) : (turn l).length = l.length := by simp [turn]
theorem turn_turn (l : List Int) : turn (turn l) = l := by
 simp only [turn, ← List.map_reverse, List.reverse_reverse, List.map_map]
 conv => rhs; rw [← List.map_id l]
 apply List.map_congr_left
 intro n _
 simp only [Function.comp, id]
 omega
theorem rcOf_rowOf (l : List Int) : rcOf (rowOf l) = rowOf (turn l) := by
 rw [rcOf, codesOf_rowOf, rowOf, turn, ← List.map_reverse, List.map_map, List.map_map]
 apply List.map_congr_left
 intro n _
 exact letterOf_congr (by show (3 - n % 4) % 4 = (3 - n) % 4; omega)
theorem rowOf_length (l : List Int) : (rowOf l).length = l.length := by simp [rowOf]
theorem strong_turn (n : Int) : (letterOf (3 - n) == 67 || letterOf (3 - n) == 71) = (letterOf n == 67 || letterOf n == 71) := by
 rcases mod4_cases n with e | e | e | e
 · rw [letterOf_congr (b := 3) (by omega), letterOf_congr (a := n) (b := 0) (by omega)]; decide
 · rw [letterOf_congr (b := 2) (by omega), letterOf_congr (a := n) (b := 1) (by omega)]; decide
 · rw [letterOf_congr (b := 1) (by omega), letterOf_congr (a := n) (b := 2) (by omega)]; decide
 · rw [letterOf_congr (b := 0) (by omega), letterOf_congr (a := n) (b := 3) (by omega)]; decide
theorem gcOf_turn (l : List Int) : gcOf (rowOf (turn l)) = gcOf (rowOf l) := by
 simp only [gcOf, rowOf, turn, List.countP_map, List.countP_reverse]
 apply List.countP_congr
 intro n _
 simp only [Function.comp, strong_turn]
def HasRun (bs : List UInt8) (k m : Nat) : Prop := ∃ i, i + m ≤ k ∧ ∀ j, i ≤ j → j + 1 < i + m → bs[j]? = bs[j + 1]?
theorem runAt_spec (bs : List UInt8) : ∀ k,
    (∀ m, m ≤ (runAt bs k).2 ↔ m ≤ k ∧ ∀ j, k - m ≤ j → j + 1 < k → bs[j]? = bs[j + 1]?) ∧ (∀ m, m ≤ (runAt bs k).1 ↔ HasRun bs k m) := by
 intro k
 induction k with
 | zero =>
   refine ⟨fun m => ⟨fun h => ⟨h, fun j _ h2 => by omega⟩, fun h => h.1⟩, fun m => ⟨fun h => ⟨0, by simpa [runAt] using h, fun j _ h2 => ?_⟩, fun ⟨i, h, _⟩ => by simp [runAt]; omega⟩⟩
   have : m = 0 := by simpa [runAt] using h
   omega
 | succ k ih =>
   obtain ⟨ih2, ih1⟩ := ih
   have h2 : ∀ m, m ≤ (runAt bs (k + 1)).2 ↔ m ≤ k + 1 ∧ ∀ j, k + 1 - m ≤ j → j + 1 < k + 1 → bs[j]? = bs[j + 1]? := by
    intro m
    by_cases hn : k = 0 ∨ bs[k]? ≠ bs[k - 1]?
    · rw [runAt_succ_new bs k hn]
      refine ⟨fun h => ⟨by simp at h; omega, fun j h1 h2 => by simp at h; omega⟩, fun ⟨h1, h3⟩ => ?_⟩
      show m ≤ 1
      rcases Nat.lt_or_ge 1 m with hm | hm
      · exfalso
        have := h3 (k - 1) (by omega) (by omega)
        rw [show k - 1 + 1 = k by omega] at this
        rcases hn with hn | hn
        · omega
        · exact hn this.symm
      · exact hm
    · rw [runAt_succ_on bs k hn]
      have hk : ¬ k = 0 := fun h => hn (.inl h)
      have he : bs[k]? = bs[k - 1]? := Classical.byContradiction fun h => hn (.inr h)
      show m ≤ (runAt bs k).2 + 1 ↔ _
      cases m with
      | zero => exact ⟨fun _ => ⟨by omega, fun j h1 h2 => by omega⟩, fun _ => by omega⟩
      | succ m =>
        rw [Nat.add_le_add_iff_right, ih2 m]
        constructor
        · rintro ⟨h1, h3⟩
          refine ⟨by omega, fun j h4 h5 => ?_⟩
          rcases Nat.lt_or_ge (j + 1) k with hj | hj
          · exact h3 j (by omega) hj
          · obtain rfl : j = k - 1 := by omega
            rw [show k - 1 + 1 = k by omega]; exact he.symm
        · rintro ⟨h1, h3⟩
          exact ⟨by omega, fun j h4 h5 => h3 j (by omega) (by omega)⟩
   refine ⟨h2, fun m => ?_⟩
   have hmax : (runAt bs (k + 1)).1 = max (runAt bs k).1 (runAt bs (k + 1)).2 := by simp only [runAt]
   rw [hmax]
   constructor
   · intro h
     rcases (show m ≤ (runAt bs k).1 ∨ m ≤ (runAt bs (k + 1)).2 by omega) with h | h
     · obtain ⟨i, h1, h3⟩ := (ih1 m).1 h
       exact ⟨i, by omega, h3⟩
     · obtain ⟨h1, h3⟩ := (h2 m).1 h
       exact ⟨k + 1 - m, by omega, fun j h4 h5 => h3 j h4 (by omega)⟩
   · rintro ⟨i, h1, h3⟩
     rcases Nat.lt_or_ge (i + m) (k + 1) with h | h
     · have := (ih1 m).2 ⟨i, by omega, h3⟩
       omega
     · have := (h2 m).2 ⟨by omega, fun j h4 h5 => h3 j (by omega) (by omega)⟩
       omega
def runOf (bs : List UInt8) : Nat := (runAt bs bs.length).1
theorem runOf_iff (bs : List UInt8) (m : Nat) : m ≤ runOf bs ↔ HasRun bs bs.length m := (runAt_spec bs bs.length).2 m
theorem eq_of_le_iff {a b : Nat} (h : ∀ m, m ≤ a ↔ m ≤ b) : a = b := Nat.le_antisymm ((h a).1 (Nat.le_refl _)) ((h b).2 (Nat.le_refl _))
theorem rowOf_get (l : List Int) (j : Nat) (h : j < l.length) : (rowOf l)[j]? = some (letterOf l[j]) := by simp [rowOf, h]
theorem turn_get (l : List Int) (j : Nat) (h : j < l.length) : (turn l)[j]? = some (3 - l[l.length - 1 - j]) := by
 simp only [turn, List.getElem?_map]
 rw [List.getElem?_reverse (by omega), List.getElem?_eq_getElem (by omega)]
 rfl
theorem hasRun_turn (l : List Int) (m : Nat) (h : HasRun (rowOf l) l.length m) : HasRun (rowOf (turn l)) l.length m := by
 obtain ⟨i, h1, h2⟩ := h
 refine ⟨l.length - m - i, by omega, fun j h3 h4 => ?_⟩
 have g : ∀ j, j < l.length → (rowOf (turn l))[j]? = some (letterOf (3 - l[l.length - 1 - j]?.getD 0)) := by
  intro j hj
  have := turn_get l j hj
  simp only [rowOf, List.getElem?_map, this, Option.map_some]
  rw [List.getElem?_eq_getElem (by omega)]
  rfl
 rw [g j (by omega), g (j + 1) (by omega)]
 have h5 := h2 (l.length - 1 - (j + 1)) (by omega) (by omega)
 rw [show l.length - 1 - (j + 1) + 1 = l.length - 1 - j by omega] at h5
 rw [rowOf_get l _ (by omega), rowOf_get l _ (by omega)] at h5
 have h6 := letterOf_inj (Option.some.inj h5)
 rw [List.getElem?_eq_getElem (by omega), List.getElem?_eq_getElem (by omega)]
 simp only [Option.getD_some]
 congr 1
 exact letterOf_congr (by omega)
theorem runOf_turn (l : List Int) : runOf (rowOf (turn l)) = runOf (rowOf l) := by
 apply eq_of_le_iff
 intro m
 rw [runOf_iff, runOf_iff, rowOf_length, rowOf_length, turn_length]
 refine ⟨fun h => ?_, hasRun_turn l m⟩
 have := hasRun_turn (turn l) m (by rw [turn_length]; exact h)
 rwa [turn_turn, turn_length] at this
end Go.Proofs.YtcngnjkpnmpcpaaDoor
