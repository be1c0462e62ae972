/- Mathematics of BalanceAlways: a row of an even length is balanced somewhere. -/
import Derived.Test.YtbodielilaedeaaDoorBlZ
import Derived.Test.YtbodielilaedeaaDoorBlX
namespace Go.Proofs.YtbodielilaedeaaDoor

theorem gcOf_append (a b : List UInt8) : gcOf (a ++ b) = gcOf a + gcOf b := List.countP_append
theorem gcOf_one (c : UInt8) : gcOf [c] = if c == 67 || c == 71 then 1 else 0 := by simp [gcOf, List.countP_cons]
theorem mk_form {bs : List UInt8} (h : Fine bs) (k : Nat) (hk : k ≤ bs.length) : mk bs k = gcOf bs + k - 2 * (gcOf (bs.take k) : Int) := by
  induction k with
  | zero => simp [mk, gcOf]
  | succ k ih =>
    have h1 := ih (by omega)
    have h2 := gcOf_snoc bs k (by omega)
    have h4 := flipB_gc _ (h.get k (by omega))
    rw [← gcOf_one] at h2
    simp only [mk, List.getElem?_eq_getElem (show k < bs.length by omega), Option.getD_some]
    omega
theorem flip_drop (bs : List UInt8) (k : Nat) : (flipOf bs k).drop k = bs.drop k := by
  apply List.ext_getElem?
  intro i
  rw [List.getElem?_drop, List.getElem?_drop]
  by_cases h : k + i < bs.length
  · rw [flipOf_get bs k (k + i) h, List.getElem?_eq_getElem h, flipAt, if_neg (by omega)]
  · rw [List.getElem?_eq_none (by rw [flipOf_length]; omega), List.getElem?_eq_none (by omega)]
theorem mk_gc {bs : List UInt8} (h : Fine bs) (k : Nat) (hk : k ≤ bs.length) : mk bs k = gcOf (flipOf bs k) := by
  have e1 := flip_strong h k k hk (Int.le_refl _)
  have e2 := mk_form h k hk
  have e3 : gcOf (flipOf bs k) = gcOf ((flipOf bs k).take k) + gcOf (bs.drop k) := by
    rw [← flip_drop bs k, ← gcOf_append, List.take_append_drop]
  have e4 : gcOf bs = gcOf (bs.take k) + gcOf (bs.drop k) := by rw [← gcOf_append, List.take_append_drop]
  omega
theorem some_half {bs : List UInt8} (h : Fine bs) (hev : bs.length % 2 = 0) : ∃ k, k ≤ bs.length ∧ 2 * mk bs k = bs.length := by
  rcases Classical.em (∃ k, k ≤ bs.length ∧ 2 * mk bs k = bs.length) with h1 | h1
  · exact h1
  exfalso
  have h2 : ∀ k, k ≤ bs.length → 2 * mk bs k ≠ bs.length := fun k hk e => h1 ⟨k, hk, e⟩
  have key : ∀ k, k ≤ bs.length → (2 * mk bs k > bs.length ↔ 2 * mk bs 0 > bs.length) := by
    intro k
    induction k with
    | zero => intro _; exact Iff.rfl
    | succ k ih =>
      intro hk
      have a := ih (by omega)
      have b := h2 k (by omega)
      have c := h2 (k + 1) hk
      have s1 := mk_form h k (by omega)
      have s2 := mk_form h (k + 1) hk
      have s3 := gcOf_snoc bs k (by omega)
      rw [← a]
      split at s3 <;> omega
  have z := key bs.length (Nat.le_refl _)
  have f0 := mk_form h 0 (by omega)
  have fn := mk_form h bs.length (Nat.le_refl _)
  have n0 := h2 0 (by omega)
  have nn := h2 bs.length (Nat.le_refl _)
  rw [List.take_length] at fn
  rw [List.take_zero, show gcOf ([] : List UInt8) = 0 from rfl] at f0
  omega
theorem always {bs : List UInt8} (h : Fine bs) (hev : bs.length % 2 = 0) (n : Int) : ¬ FindNo bs n := by
  rintro (⟨_, _, h2⟩ | ⟨_, h2⟩)
  · obtain ⟨k, hk, e⟩ := some_half h hev
    exact h2 k hk e
  · exact h h2
theorem width_room (n k : Nat) (hk : k ≤ n) (hn : n ≤ 300) : ∃ u : Nat, widthOf n = 2 * u ∧ 1 ≤ u ∧ u ≤ 5 ∧ k < 2 ^ (2 * u) := by
  rcases Nat.eq_zero_or_pos n with rfl | hp
  · exact ⟨1, by decide, by omega, by omega, by omega⟩
  · obtain ⟨u, hu, u1, u21, hlt, hge, _⟩ := width_facts n hp (by omega)
    refine ⟨u, hu, u1, ?_, by omega⟩
    rcases hge with h | h
    · omega
    · rcases Nat.lt_or_ge u 6 with h6 | h6
      · omega
      · have := Nat.pow_le_pow_right (n := 2) (by omega) (show 10 ≤ 2 * u - 2 by omega)
        omega
end Go.Proofs.YtbodielilaedeaaDoor
