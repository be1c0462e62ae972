/- Mathematics of rows flipped twice (BalancePairs). -/
import Derived.Test.YtbodielilaedeaaDoorBlY
namespace Go.Proofs.YtbodielilaedeaaDoor

/-- All letters are of the four. -/
def Fine (bs : List UInt8) : Prop := (-1 : Int) ∉ codesOf bs
theorem Fine.get {bs : List UInt8} (h : Fine bs) (i : Nat) (hi : i < bs.length) : codeOf bs[i].toNat ≠ -1 := fun e => h (e ▸ codesOf_in bs i hi)
theorem fine_of {bs : List UInt8} (h : ∀ i (hi : i < bs.length), codeOf bs[i].toNat ≠ -1) : Fine bs := by
  intro hin
  obtain ⟨c, hc, e⟩ := List.mem_map.1 hin
  obtain ⟨i, hi, rfl⟩ := List.mem_iff_getElem.1 hc
  exact h i hi e
theorem flipB_twice (c : UInt8) (h : codeOf c.toNat ≠ -1) : flipB (flipB c) = c := by
  rcases code_some c h with rfl | rfl | rfl | rfl <;> decide
theorem flipB_ne (c : UInt8) (h : codeOf c.toNat ≠ -1) : flipB c ≠ c := by
  rcases code_some c h with rfl | rfl | rfl | rfl <;> decide
theorem flipB_code (c : UInt8) (h : codeOf c.toNat ≠ -1) : codeOf (flipB c).toNat ≠ -1 := by
  rcases code_some c h with rfl | rfl | rfl | rfl <;> decide
theorem flipB_inj (a b : UInt8) (ha : codeOf a.toNat ≠ -1) (hb : codeOf b.toNat ≠ -1) (h : flipB a = flipB b) : a = b := by
  rw [← flipB_twice a ha, h, flipB_twice b hb]
theorem flipB_gc (c : UInt8) (h : codeOf c.toNat ≠ -1) : (gcOf [flipB c] : Int) = 1 - gcOf [c] := by
  rcases code_some c h with rfl | rfl | rfl | rfl <;> decide
theorem flipOf_at (bs : List UInt8) (k : Int) (i : Nat) (h : i < bs.length) : (flipOf bs k)[i]'(by rw [flipOf_length]; exact h) = flipAt k bs[i] i := by
  have := flipOf_get bs k i h
  rw [List.getElem?_eq_getElem (by rw [flipOf_length]; exact h)] at this
  exact Option.some.inj this
theorem flipAt_code (k : Int) (c : UInt8) (i : Nat) (h : codeOf c.toNat ≠ -1) : codeOf (flipAt k c i).toNat ≠ -1 := by
  unfold flipAt
  split
  · exact flipB_code c h
  · exact h
theorem flipAt_twice (k : Int) (c : UInt8) (i : Nat) (h : codeOf c.toNat ≠ -1) : flipAt k (flipAt k c i) i = c := by
  unfold flipAt
  by_cases hk : (i : Int) < k
  · simp only [hk, if_true]; exact flipB_twice c h
  · simp only [hk, if_false]
theorem Fine.flip {bs : List UInt8} (h : Fine bs) (k : Int) : Fine (flipOf bs k) := by
  apply fine_of
  intro i hi
  rw [flipOf_length] at hi
  rw [flipOf_at bs k i hi]
  exact flipAt_code k _ i (h.get i hi)
/-- A row flipped twice is the row. -/
theorem flip_twice {bs : List UInt8} (h : Fine bs) (k : Int) : flipOf (flipOf bs k) k = bs := by
  apply List.ext_getElem
  · rw [flipOf_length, flipOf_length]
  · intro i h1 h2
    rw [flipOf_at _ k i (by rw [flipOf_length]; exact h2), flipOf_at bs k i h2]
    exact flipAt_twice k _ i (h.get i h2)
/-- Behind the place the letters are the same, ahead of it others. -/
theorem flip_same {bs : List UInt8} (h : Fine bs) (k : Int) (i : Nat) (hi : i < bs.length) : flipAt k bs[i] i = bs[i] ↔ k ≤ i := by
  unfold flipAt
  by_cases hk : (i : Int) < k
  · simp only [hk, if_true]
    exact ⟨fun e => absurd e (flipB_ne _ (h.get i hi)), fun e => absurd e (by omega)⟩
  · simp only [hk, if_false]
    exact ⟨fun _ => by omega, fun _ => trivial⟩
/-- Two alike side by side are where there were such, but at the place. -/
theorem flip_pairs {bs : List UInt8} (h : Fine bs) (k : Int) (i : Nat) (hi : i + 1 < bs.length) (hik : ((i + 1 : Nat) : Int) ≠ k) :
    flipAt k bs[i + 1] (i + 1) = flipAt k bs[i] i ↔ bs[i + 1] = bs[i] := by
  unfold flipAt
  by_cases hk : ((i + 1 : Nat) : Int) < k
  · simp only [hk, if_true, show (i : Int) < k by omega]
    exact ⟨flipB_inj _ _ (h.get (i + 1) hi) (h.get i (by omega)), fun e => by rw [e]⟩
  · simp only [hk, if_false, show ¬ (i : Int) < k by omega]
/-- How strong the first letters are, flipped. -/
theorem flip_strong {bs : List UInt8} (h : Fine bs) (k : Int) (j : Nat) (hj : j ≤ bs.length) (hjk : (j : Int) ≤ k) :
    (gcOf ((flipOf bs k).take j) : Int) = j - gcOf (bs.take j) := by
  induction j with
  | zero => simp [gcOf]
  | succ j ih =>
    have h1 := gcOf_snoc bs j (by omega)
    have h2 := gcOf_snoc (flipOf bs k) j (by rw [flipOf_length]; omega)
    rw [flipOf_at bs k j (by omega)] at h2
    have h3 := ih (by omega) (by omega)
    have h4 := flipB_gc _ (h.get j (by omega))
    have h5 : flipAt k bs[j] j = flipB bs[j] := by
      unfold flipAt
      rw [if_pos (by omega)]
    rw [h5] at h2
    have one : ∀ c : UInt8, gcOf [c] = if c == 67 || c == 71 then 1 else 0 := by
      intro c
      simp [gcOf, List.countP_cons]
    rw [one, one] at h4
    rw [h1, h2]
    omega
theorem flip_same_b {bs : List UInt8} (h : Fine bs) (k : Int) (i : Nat) (hi : i < bs.length) : (flipAt k bs[i] i == bs[i]) = decide (k ≤ i) := by
  rw [Bool.eq_iff_iff, beq_iff_eq, decide_eq_true_iff]
  exact flip_same h k i hi
theorem flip_pairs_b {bs : List UInt8} (h : Fine bs) (k : Int) (i : Nat) (hi : i + 1 < bs.length) (hik : ((i + 1 : Nat) : Int) ≠ k) :
    (flipAt k bs[i + 1] (i + 1) == flipAt k bs[i] i) = (bs[i + 1] == bs[i]) := by
  rw [Bool.eq_iff_iff, beq_iff_eq, beq_iff_eq]
  exact flip_pairs h k i hi hik
end Go.Proofs.YtbodielilaedeaaDoor
