/- The field of bytes: plain mathematics. Of no program. -/
import Derived.Test.YtkldapdebjlfmaaR
namespace Go.Proofs.Ytkldapdebjlfmaa
open Go.RowKit

/-- 2 times a byte. -/
def dbl (n : Nat) : Nat := if n < 128 then 2 * n else (2 * n - 256) ^^^ 29
/-- 2 to the power of n. -/
def pw : Nat → Nat
  | 0 => 1
  | n + 1 => dbl (pw n)
/-- A byte so often times 2. -/
def dblk (a : Nat) : Nat → Nat
  | 0 => a
  | k + 1 => dbl (dblk a k)
/-- The product by the lowest k bits of b. -/
def prodk (a b : Nat) : Nat → Nat
  | 0 => 0
  | k + 1 => if b / 2 ^ k % 2 = 1 then prodk a b k ^^^ dblk a k else prodk a b k
/-- The product. -/
def mulN (a b : Nat) : Nat := prodk a b 8

theorem dbl_lt (n : Nat) (h : n < 256) : dbl n < 256 := by
  unfold dbl
  split
  · omega
  · exact Nat.xor_lt_two_pow (n := 8) (by omega) (by omega)
theorem pw_lt (n : Nat) : pw n < 256 := by
  induction n with
  | zero => decide
  | succ n ih => exact dbl_lt _ ih
theorem dblk_lt (a k : Nat) (h : a < 256) : dblk a k < 256 := by
  induction k with
  | zero => exact h
  | succ k ih => exact dbl_lt _ ih
theorem prodk_lt (a b k : Nat) (h : a < 256) : prodk a b k < 256 := by
  induction k with
  | zero => simp [prodk]
  | succ k ih =>
    simp only [prodk]
    split
    · exact Nat.xor_lt_two_pow (n := 8) ih (dblk_lt a k h)
    · exact ih
theorem mulN_lt (a b : Nat) (h : a < 256) : mulN a b < 256 := prodk_lt a b 8 h

theorem dbl_xor : ∀ a b, a < 256 → b < 256 → dbl (a ^^^ b) = dbl a ^^^ dbl b := by
  intro a b ha hb
  have e : ∀ n, n < 256 → dbl n = (2 * n % 256) ^^^ (if n.testBit 7 then 29 else 0) := by decide +kernel
  rw [e a ha, e b hb, e _ (Nat.xor_lt_two_pow (n := 8) ha hb), Nat.testBit_xor]
  have h2 : 2 * (a ^^^ b) % 256 = (2 * a % 256) ^^^ (2 * b % 256) := by
    apply Nat.eq_of_testBit_eq
    intro i
    rw [show (256 : Nat) = 2 ^ 8 from rfl, Nat.testBit_mod_two_pow, Nat.testBit_xor, Nat.testBit_mod_two_pow, Nat.testBit_mod_two_pow]
    rcases i with _ | i
    · simp
    · have t : ∀ x, (2 * x).testBit (i + 1) = x.testBit i := by intro x; rw [Nat.testBit_succ]; congr 1; omega
      rw [t, t, t, Nat.testBit_xor]
      cases decide (i + 1 < 8) <;> simp
  rw [h2]
  generalize 2 * a % 256 = x
  generalize 2 * b % 256 = y
  have h3 : x ^^^ 29 ^^^ (y ^^^ 29) = x ^^^ y := by
    rw [show x ^^^ 29 ^^^ (y ^^^ 29) = (x ^^^ y) ^^^ (29 ^^^ 29) by ac_rfl, Nat.xor_self, Nat.xor_zero]
  cases a.testBit 7 <;> cases b.testBit 7
  · simp
  · simp [Nat.xor_assoc]
  · simp only [Bool.xor_false, if_true, Bool.false_eq_true, if_false, Nat.xor_zero]; ac_rfl
  · simp only [Bool.xor_self, if_true, Bool.false_eq_true, if_false, Nat.xor_zero]; exact h3.symm
theorem dblk_xor (a b k : Nat) (ha : a < 256) (hb : b < 256) : dblk (a ^^^ b) k = dblk a k ^^^ dblk b k := by
  induction k with
  | zero => rfl
  | succ k ih => rw [dblk, ih, dbl_xor _ _ (dblk_lt a k ha) (dblk_lt b k hb)]; rfl
theorem prodk_xor_left (a c b k : Nat) (ha : a < 256) (hc : c < 256) : prodk (a ^^^ c) b k = prodk a b k ^^^ prodk c b k := by
  induction k with
  | zero => simp [prodk]
  | succ k ih =>
    simp only [prodk]
    rw [ih, dblk_xor a c k ha hc]
    split
    · ac_rfl
    · rfl
theorem bit_iff (b k : Nat) : (b / 2 ^ k % 2 = 1) ↔ b.testBit k = true := by
  rw [Nat.testBit_eq_decide_div_mod_eq]; simp
theorem prodk_xor_right (a b c k : Nat) : prodk a (b ^^^ c) k = prodk a b k ^^^ prodk a c k := by
  induction k with
  | zero => simp [prodk]
  | succ k ih =>
    simp only [prodk, bit_iff, Nat.testBit_xor, ih]
    generalize prodk a b k = x
    generalize prodk a c k = y
    generalize dblk a k = z
    have h3 : x ^^^ z ^^^ (y ^^^ z) = x ^^^ y := by
      rw [show x ^^^ z ^^^ (y ^^^ z) = (x ^^^ y) ^^^ (z ^^^ z) by ac_rfl, Nat.xor_self, Nat.xor_zero]
    cases b.testBit k <;> cases c.testBit k
    · simp
    · simp [Nat.xor_assoc]
    · simp only [Bool.xor_false, if_true, Bool.false_eq_true, if_false]; ac_rfl
    · simp only [Bool.xor_self, if_true, Bool.false_eq_true, if_false]; exact h3.symm
/-- What is the same at the bits, and goes by sums, is the same. -/
theorem lin_ext (f g : Nat → Nat) (hf : ∀ a b, a < 256 → b < 256 → f (a ^^^ b) = f a ^^^ f b) (hg : ∀ a b, a < 256 → b < 256 → g (a ^^^ b) = g a ^^^ g b) (h0 : f 0 = g 0) (hb : ∀ i, i < 8 → f (2 ^ i) = g (2 ^ i)) :
    ∀ x, x < 256 → f x = g x := by
  have key : ∀ n, n ≤ 8 → ∀ x, x < 2 ^ n → f x = g x := by
    intro n
    induction n with
    | zero => intro _ x hx; obtain rfl : x = 0 := by omega
              exact h0
    | succ n ih =>
      intro hn x hx
      have hp : 2 ^ (n + 1) = 2 * 2 ^ n := by rw [Nat.pow_succ]; omega
      have h256 : 2 ^ n < 256 := by
        have := Nat.pow_le_pow_right (n := 2) (by omega) (show n ≤ 7 by omega)
        omega
      rcases Nat.lt_or_ge x (2 ^ n) with h | h
      · exact ih (by omega) x h
      · have e : x = (x - 2 ^ n) ^^^ 2 ^ n := by
          have h1 := Nat.two_pow_add_eq_or_of_lt (i := n) (b := x - 2 ^ n) (by omega) 1
          have h2 : (x - 2 ^ n) ^^^ 2 ^ n = 2 ^ n + (x - 2 ^ n) := by
            have h3 : 2 ^ n ||| (x - 2 ^ n) = 2 ^ n ^^^ (x - 2 ^ n) := by
              apply Nat.eq_of_testBit_eq
              intro i
              rw [Nat.testBit_or, Nat.testBit_xor, Nat.testBit_two_pow]
              by_cases hi : n = i
              · subst hi
                rw [Nat.testBit_lt_two_pow (show x - 2 ^ n < 2 ^ n by omega)]; simp
              · simp [hi]
            rw [Nat.xor_comm, ← h3]
            rw [Nat.mul_one] at h1
            exact h1.symm
          rw [h2]; omega
        rw [e, hf _ _ (by omega) h256, hg _ _ (by omega) h256, ih (by omega) _ (by omega), hb n (by omega)]
  exact key 8 (Nat.le_refl _)
theorem mul_dbl_basis : ∀ y, y < 256 → ∀ i, i < 8 → mulN (2 ^ i) (dbl y) = dbl (mulN (2 ^ i) y) := by decide +kernel
theorem mul_zero_left : ∀ y, y < 256 → mulN 0 (dbl y) = dbl (mulN 0 y) := by decide +kernel
theorem mul_dbl (x y : Nat) (hx : x < 256) (hy : y < 256) : mulN x (dbl y) = dbl (mulN x y) :=
  lin_ext (fun x => mulN x (dbl y)) (fun x => dbl (mulN x y)) (fun a b ha hb => prodk_xor_left a b _ 8 ha hb)
    (fun a b ha hb => by show dbl (prodk (a ^^^ b) y 8) = _; rw [prodk_xor_left a b _ 8 ha hb, dbl_xor _ _ (prodk_lt a y 8 ha) (prodk_lt b y 8 hb)]; rfl)
    (mul_zero_left y hy) (mul_dbl_basis y hy) x hx
theorem mul_one : ∀ x, x < 256 → mulN x 1 = x := by decide +kernel
theorem mul_pw (x j : Nat) (hx : x < 256) : mulN x (pw j) = dblk x j := by
  induction j with
  | zero => exact mul_one x hx
  | succ j ih => rw [pw, mul_dbl x _ hx (pw_lt j), ih]; rfl
theorem dblk_pw (i j : Nat) : dblk (pw i) j = pw (i + j) := by
  induction j with
  | zero => rfl
  | succ j ih => rw [dblk, ih]; rfl
theorem pw_mul (i j : Nat) : mulN (pw i) (pw j) = pw (i + j) := by rw [mul_pw _ _ (pw_lt i), dblk_pw]
theorem pw_255 : pw 255 = 1 := by decide +kernel
theorem pw_more (n : Nat) : pw (n + 255) = pw n := by
  induction n with
  | zero => exact pw_255
  | succ n ih => rw [show n + 1 + 255 = (n + 255) + 1 by omega, pw, ih]; rfl
theorem pw_mod (n : Nat) : pw (n % 255) = pw n := by
  have key : ∀ k n, pw (n + 255 * k) = pw n := by
    intro k
    induction k with
    | zero => intro n; rfl
    | succ k ih => intro n; rw [show n + 255 * (k + 1) = (n + 255 * k) + 255 by omega, pw_more, ih]
  have h := key (n / 255) (n % 255)
  rw [Nat.mod_add_div] at h
  exact h.symm
/-- So many powers, from x on. -/
def pows : Nat → Nat → List Nat
  | 0, _ => []
  | n + 1, x => x :: pows n (dbl x)
theorem pows_length (n x : Nat) : (pows n x).length = n := by
  induction n generalizing x with
  | zero => rfl
  | succ n ih => simp [pows, ih]
theorem dblk_dbl (x k : Nat) : dblk (dbl x) k = dblk x (k + 1) := by
  induction k with
  | zero => rfl
  | succ k ih => rw [dblk, ih]; rfl
theorem pows_get (n x k : Nat) (h : k < n) : (pows n x)[k]? = some (dblk x k) := by
  induction n generalizing x k with
  | zero => omega
  | succ n ih =>
    rcases k with _ | k
    · rfl
    · rw [pows, List.getElem?_cons_succ, ih (dbl x) k (by omega), dblk_dbl]
theorem dblk_one (k : Nat) : dblk 1 k = pw k := by have := dblk_pw 0 k; rwa [Nat.zero_add] at this
theorem pows_pw (k : Nat) (h : k < 255) : (pows 255 1)[k]? = some (pw k) := by rw [pows_get 255 1 k h, dblk_one]
theorem pows_count : ∀ a, a < 256 → (pows 255 1).count a = if a = 0 then 0 else 1 := by decide +kernel
theorem pw_all (a : Nat) (h : a < 256) (h0 : a ≠ 0) : ∃ k, k < 255 ∧ pw k = a := by
  have hc := pows_count a h
  rw [if_neg h0] at hc
  have hm : a ∈ pows 255 1 := List.count_pos_iff.1 (by omega)
  obtain ⟨k, hk, e⟩ := List.mem_iff_getElem.1 hm
  rw [pows_length] at hk
  have := pows_pw k hk
  rw [List.getElem?_eq_getElem (by rw [pows_length]; exact hk), e] at this
  exact ⟨k, hk, (Option.some.inj this).symm⟩
theorem pw_pos (k : Nat) : pw k ≠ 0 := by
  have h : ∀ k, k < 255 → pw k ≠ 0 := by
    intro k hk e
    have hm : 0 ∈ pows 255 1 := by
      have := pows_pw k hk
      rw [e] at this
      exact List.mem_of_getElem? this
    have hc := pows_count 0 (by omega)
    rw [if_pos rfl] at hc
    exact absurd (List.count_pos_iff.2 hm) (by omega)
  rw [← pw_mod]
  exact h _ (Nat.mod_lt _ (by omega))
theorem pows_nodup : (pows 255 1).Nodup := by decide +kernel
theorem pw_inj (i j : Nat) (hi : i < 255) (hj : j < 255) (h : pw i = pw j) : i = j := by
  have h1 := pows_pw i hi
  have h2 := pows_pw j hj
  rw [h, ← h2] at h1
  exact (List.getElem?_inj (by rw [pows_length]; exact hi) pows_nodup).1 h1
end Go.Proofs.Ytkldapdebjlfmaa
