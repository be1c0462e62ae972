/- Powers of whatever byte: plain mathematics, and Pow's contract as one. -/
import Derived.Test.YtmbajcjbaabmcaaGfW
namespace Go.Proofs.Ytmbajcjbaabmcaa
open Go.RowKit Go.Shelf
attribute [local go_sem] Oper.semAt_some run_store_func

/-- Which power of 2 a byte is. -/
def lg (a : Nat) : Nat := (pows 255 1).idxOf a
theorem lg_spec (a : Nat) (h : a < 256) (h0 : a ≠ 0) : lg a < 255 ∧ pw (lg a) = a := by
  have hc := pows_count a h
  rw [if_neg h0] at hc
  have hm : a ∈ pows 255 1 := List.count_pos_iff.1 (by omega)
  have hl : lg a < 255 := by have := List.idxOf_lt_length_of_mem hm; rwa [pows_length] at this
  refine ⟨hl, ?_⟩
  have h1 := pows_pw (lg a) hl
  rw [List.getElem?_eq_getElem (by rw [pows_length]; exact hl)] at h1
  rw [← Option.some.inj h1]
  exact List.getElem_idxOf _
theorem lg_pw (k : Nat) (h : k < 255) : lg (pw k) = k := by
  obtain ⟨h1, h2⟩ := lg_spec (pw k) (pw_lt k) (pw_pos k)
  exact pw_inj _ _ h1 h h2
theorem pw_congr (x y : Nat) (h : x % 255 = y % 255) : pw x = pw y := by rw [← pw_mod x, h, pw_mod]
theorem pw_rest (x : Nat) : pw (restN (x : Int)) = pw x := by
  refine pw_congr _ _ ?_
  unfold restN
  omega
theorem powN_pw (k : Nat) (n : Int) : powN k n = pw (k * restN n) := pw_rest _
/-- A byte to the power of n. -/
def powT (a : Nat) (n : Int) : Nat := if n = 0 then 1 else if a = 0 then 0 else powN (lg a) n
theorem powT_some (a : Nat) (n : Int) (h0 : a ≠ 0) : powT a n = pw (lg a * restN n) := by
  unfold powT
  by_cases hn : n = 0
  · subst hn; rw [if_pos rfl, show restN 0 = 0 by decide, Nat.mul_zero]; rfl
  · rw [if_neg hn, if_neg h0, powN_pw]
theorem powT_lt (a : Nat) (n : Int) : powT a n < 256 := by
  unfold powT powN
  split
  · omega
  · split
    · omega
    · exact pw_lt _
theorem mul_nought_left (b : Nat) : mulN 0 b = 0 := by
  have h : ∀ k, dblk 0 k = 0 := by intro k; induction k with
    | zero => rfl
    | succ k ih => rw [dblk, ih]; rfl
  have h2 : ∀ k, prodk 0 b k = 0 := by
    intro k
    induction k with
    | zero => rfl
    | succ k ih => simp only [prodk, ih, h]; split <;> rfl
  exact h2 8
theorem mul_nought_right (a : Nat) : mulN a 0 = 0 := by simp [mulN, prodk]
theorem mul_comm (a b : Nat) (ha : a < 256) (hb : b < 256) : mulN a b = mulN b a := by
  by_cases h1 : a = 0
  · subst h1; rw [mul_nought_left, mul_nought_right]
  · by_cases h2 : b = 0
    · subst h2; rw [mul_nought_left, mul_nought_right]
    · rw [← (lg_spec a ha h1).2, ← (lg_spec b hb h2).2, pw_mul, pw_mul, Nat.add_comm]
theorem pow_two (a : Nat) (ha : a < 256) : powT a 2 = mulN a a := by
  by_cases h0 : a = 0
  · subst h0; rw [mul_nought_left]; rfl
  · rw [powT_some a 2 h0, show restN 2 = 2 by decide]
    have h := pw_mul (lg a) (lg a)
    rw [(lg_spec a ha h0).2] at h
    rw [h, Nat.mul_two]
theorem mul_xor_left (a c b : Nat) (ha : a < 256) (hc : c < 256) : mulN (a ^^^ c) b = mulN a b ^^^ mulN c b := prodk_xor_left a c b 8 ha hc
theorem mul_xor_right (a b c : Nat) : mulN a (b ^^^ c) = mulN a b ^^^ mulN a c := prodk_xor_right a b c 8
theorem pow_two_xor (a b : Nat) (ha : a < 256) (hb : b < 256) : powT (a ^^^ b) 2 = powT a 2 ^^^ powT b 2 := by
  rw [pow_two _ (Nat.xor_lt_two_pow (n := 8) ha hb), pow_two a ha, pow_two b hb, mul_xor_left a b _ ha hb, mul_xor_right, mul_xor_right, mul_comm b a hb ha]
  generalize mulN a a = x
  generalize mulN b b = y
  generalize mulN a b = z
  rw [show x ^^^ z ^^^ (z ^^^ y) = (x ^^^ y) ^^^ (z ^^^ z) by ac_rfl, Nat.xor_self, Nat.xor_zero]
theorem pow_256 (a : Nat) (ha : a < 256) : powT a 256 = a := by
  by_cases h0 : a = 0
  · subst h0; rfl
  · rw [powT_some a 256 h0, show restN 256 = 1 by decide, Nat.mul_one, (lg_spec a ha h0).2]
theorem mul_two : ∀ a, a < 256 → mulN 2 a = dbl a := by decide +kernel

theorem Pow_any (a : Nat) (n : Int) (ha : a < 256) (w : World) : Calls Try.prog 9 #[bV a, .int .i64 n] w fun e w' => e = .returned (bV (powT a n)) ∧ Below w.heap.size w w' := by
  by_cases hn : n = 0
  · subst hn
    refine (Pow_nought a w).mono ?_
    rintro e w' ⟨rfl, rfl⟩
    exact ⟨rfl, Below.refl _ _⟩
  · by_cases h0 : a = 0
    · subst h0
      refine (Pow_zero n hn w).mono ?_
      rintro e w' ⟨rfl, rfl⟩
      exact ⟨by rw [powT, if_neg hn, if_pos rfl]; rfl, Below.refl _ _⟩
    · refine (Pow_some a n ha h0 hn w).mono ?_
      rintro e w' ⟨k, hk, hp, rfl, hB⟩
      have : lg a = k := by rw [← hp]; exact lg_pw k hk
      exact ⟨by rw [powT, if_neg hn, if_neg h0, this], hB⟩
end Go.Proofs.Ytmbajcjbaabmcaa
