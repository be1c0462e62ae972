/- Sums of three rows, sums with their bytes behind, sums of other bytes: plain mathematics. -/
import Derived.Test.YtnnhijfgbdhmiaaCrS
namespace Go.Proofs.Ytnnhijfgbdhmiaa
open Go.RowKit

theorem fold_put : ∀ (xs ys : List UInt8) (c d : BitVec 32), xs.length = ys.length → (putOf xs ys).foldl stepW (c ^^^ d) = xs.foldl stepW c ^^^ ys.foldl stepW d := by
  intro xs
  induction xs with
  | nil =>
    intro ys c d h
    have : ys = [] := List.length_eq_zero_iff.1 h.symm
    subst this; rfl
  | cons x xs ih =>
    intro ys c d h
    cases ys with
    | nil => simp at h
    | cons y ys =>
      show (putOf xs ys).foldl stepW (stepW (c ^^^ d) (x ^^^ y)) = _
      rw [← stepW_xor, ih ys _ _ (by simpa using h)]
      rfl
theorem not_xor3 (a b c : BitVec 32) : ~~~ (a ^^^ b ^^^ c) = ~~~ a ^^^ ~~~ b ^^^ ~~~ c := by
  ext i hi
  simp only [BitVec.getElem_xor, BitVec.getElem_not]
  cases a[i] <;> cases b[i] <;> cases c[i] <;> rfl
theorem sum_put (x y z : List UInt8) (h1 : x.length = y.length) (h2 : x.length = z.length) : sumW (putOf (putOf x y) z) = sumW x ^^^ sumW y ^^^ sumW z := by
  have hI : (4294967295#32 : BitVec 32) = (4294967295#32 ^^^ 4294967295#32) ^^^ 4294967295#32 := by decide
  unfold sumW
  have h : (putOf (putOf x y) z).foldl stepW 4294967295#32 = x.foldl stepW 4294967295#32 ^^^ y.foldl stepW 4294967295#32 ^^^ z.foldl stepW 4294967295#32 := by
    conv => lhs; rw [hI]
    rw [fold_put _ _ _ _ (by rw [putOf_length]; omega), fold_put _ _ _ _ h1]
  rw [h, not_xor3]

theorem halves_add (m n : Nat) (x : BitVec 32) : halves m (halves n x) = halves (n + m) x := by
  induction m with
  | zero => rfl
  | succ m ih => rw [halves, ih]; rfl
theorem shl8 : ∀ n, n < 256 → halves 8 (BitVec.ofNat 32 n <<< 8) = BitVec.ofNat 32 n := by decide +kernel
theorem shl16 : ∀ n, n < 256 → halves 16 (BitVec.ofNat 32 n <<< 16) = BitVec.ofNat 32 n := by decide +kernel
theorem shl24 : ∀ n, n < 256 → halves 24 (BitVec.ofNat 32 n <<< 24) = BitVec.ofNat 32 n := by decide +kernel
theorem step_four (s : BitVec 32) (b0 b1 b2 b3 : UInt8) :
    stepW (stepW (stepW (stepW s b0) b1) b2) b3 = halves 32 (s ^^^ (byteW b0 ^^^ byteW b1 <<< 8 ^^^ byteW b2 <<< 16 ^^^ byteW b3 <<< 24)) := by
  have e1 : byteW b1 = halves 8 (byteW b1 <<< 8) := (shl8 _ b1.toNat_lt).symm
  have e2 : byteW b2 = halves 16 (byteW b2 <<< 16) := (shl16 _ b2.toNat_lt).symm
  have e3 : byteW b3 = halves 24 (byteW b3 <<< 24) := (shl24 _ b3.toNat_lt).symm
  have h1 : stepW (stepW s b0) b1 = halves 16 (s ^^^ byteW b0 ^^^ byteW b1 <<< 8) := by
    show halves 8 (halves 8 (s ^^^ byteW b0) ^^^ byteW b1) = _
    rw [show halves 8 (s ^^^ byteW b0) ^^^ byteW b1 = halves 8 (s ^^^ byteW b0 ^^^ byteW b1 <<< 8) by rw [halves_xor 8 _ (byteW b1 <<< 8), ← e1], halves_add]
  have h2 : stepW (stepW (stepW s b0) b1) b2 = halves 24 (s ^^^ byteW b0 ^^^ byteW b1 <<< 8 ^^^ byteW b2 <<< 16) := by
    rw [h1]
    show halves 8 (halves 16 (s ^^^ byteW b0 ^^^ byteW b1 <<< 8) ^^^ byteW b2) = _
    rw [show halves 16 (s ^^^ byteW b0 ^^^ byteW b1 <<< 8) ^^^ byteW b2 = halves 16 (s ^^^ byteW b0 ^^^ byteW b1 <<< 8 ^^^ byteW b2 <<< 16) by rw [halves_xor 16 _ (byteW b2 <<< 16), ← e2], halves_add]
  rw [h2]
  show halves 8 (halves 24 (s ^^^ byteW b0 ^^^ byteW b1 <<< 8 ^^^ byteW b2 <<< 16) ^^^ byteW b3) = _
  rw [show halves 24 (s ^^^ byteW b0 ^^^ byteW b1 <<< 8 ^^^ byteW b2 <<< 16) ^^^ byteW b3 = halves 24 (s ^^^ byteW b0 ^^^ byteW b1 <<< 8 ^^^ byteW b2 <<< 16 ^^^ byteW b3 <<< 24) by rw [halves_xor 24 _ (byteW b3 <<< 24), ← e3], halves_add]
  have h4 : ∀ u0 u1 u2 u3 : BitVec 32, s ^^^ u0 ^^^ u1 ^^^ u2 ^^^ u3 = s ^^^ (u0 ^^^ u1 ^^^ u2 ^^^ u3) := by
    intro u0 u1 u2 u3
    rw [BitVec.xor_assoc s, BitVec.xor_assoc s, BitVec.xor_assoc s]
  rw [h4]
theorem four_xor (c : BitVec 32) : byteW (byteAt c 0) ^^^ byteW (byteAt c 1) <<< 8 ^^^ byteW (byteAt c 2) <<< 16 ^^^ byteW (byteAt c 3) <<< 24 = c := by
  apply BitVec.eq_of_getLsbD_eq
  intro i hi
  rw [BitVec.getLsbD_xor, BitVec.getLsbD_xor, BitVec.getLsbD_xor, BitVec.getLsbD_shiftLeft, BitVec.getLsbD_shiftLeft, BitVec.getLsbD_shiftLeft, byteAt_bit, byteAt_bit, byteAt_bit, byteAt_bit]
  rcases (show i < 8 ∨ (8 ≤ i ∧ i < 16) ∨ (16 ≤ i ∧ i < 24) ∨ 24 ≤ i by omega) with h | h | h | h
  · simp [h, show i < 16 by omega, show i < 24 by omega]
  · simp [show ¬ i < 8 by omega, hi, show i - 8 < 8 by omega, show i < 16 by omega, show i < 24 by omega, show 8 + (i - 8) = i by omega]
  · simp [show ¬ i < 8 by omega, hi, show ¬ i - 8 < 8 by omega, show ¬ i < 16 by omega, show i - 16 < 8 by omega, show i < 24 by omega, show 16 + (i - 16) = i by omega]
  · simp [show ¬ i < 8 by omega, hi, show ¬ i - 8 < 8 by omega, show ¬ i < 16 by omega, show ¬ i - 16 < 8 by omega, show ¬ i < 24 by omega, show i - 24 < 8 by omega, show 24 + (i - 24) = i by omega]
theorem sum_all : ~~~ halves 32 4294967295#32 = 558161692#32 := by decide +kernel
theorem sum_four (a : List UInt8) : sumW (a ++ [byteAt (sumW a) 0, byteAt (sumW a) 1, byteAt (sumW a) 2, byteAt (sumW a) 3]) = 558161692#32 := by
  have h : (a ++ [byteAt (sumW a) 0, byteAt (sumW a) 1, byteAt (sumW a) 2, byteAt (sumW a) 3]).foldl stepW 4294967295#32 = halves 32 4294967295#32 := by
    rw [List.foldl_append]
    show stepW (stepW (stepW (stepW (a.foldl stepW 4294967295#32) _) _) _) _ = _
    rw [step_four, four_xor]
    congr 1
    unfold sumW
    generalize a.foldl stepW 4294967295#32 = s
    ext i hi
    rw [BitVec.getElem_xor, BitVec.getElem_not, show (4294967295#32 : BitVec 32) = BitVec.allOnes 32 from rfl, BitVec.getElem_allOnes]
    cases s[i] <;> rfl
  show ~~~ _ = _
  rw [h, sum_all]
theorem fold_inj (l : List UInt8) : ∀ c d : BitVec 32, l.foldl stepW c = l.foldl stepW d ↔ c = d := by
  induction l with
  | nil => intro c d; rfl
  | cons x l ih => intro c d; rw [List.foldl_cons, List.foldl_cons, ih, stepW_word]
theorem sum_set (a : List UInt8) (p : Nat) (hp : p < a.length) (y : UInt8) (hy : y ≠ a[p]) : sumW (a.set p y) ≠ sumW a := by
  intro h
  have h1 : (a.set p y).foldl stepW 4294967295#32 = a.foldl stepW 4294967295#32 := by
    have := congrArg (fun x => ~~~ x) h
    simpa [sumW] using this
  have e1 : a.set p y = a.take p ++ y :: a.drop (p + 1) := List.set_eq_take_append_cons_drop ▸ by simp [hp]
  have e2 : a = a.take p ++ a[p] :: a.drop (p + 1) := by
    rw [List.getElem_cons_drop, List.take_append_drop]
  rw [e1] at h1
  conv at h1 => rhs; rw [e2]
  rw [List.foldl_append, List.foldl_append, List.foldl_cons, List.foldl_cons, fold_inj, stepW_byte] at h1
  exact hy h1
end Go.Proofs.Ytnnhijfgbdhmiaa
