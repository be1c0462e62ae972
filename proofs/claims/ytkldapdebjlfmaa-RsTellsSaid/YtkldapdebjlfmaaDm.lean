/- What a division tells. -/
import Derived.Test.YtkldapdebjlfmaaPoF
namespace Go.Proofs.Ytkldapdebjlfmaa
open Go.RowKit Go.Shelf

theorem tr_id (p : List UInt8) (h : p.length = 0 ∨ C p (p.length - 1) ≠ 0) : tr (C p) p.length = p := by
  rw [← take_tr]
  have hl := tl_le (C p) p.length
  rcases h with h | h
  · have : p = [] := List.eq_nil_of_length_eq_zero h
    subst this; rfl
  · by_cases h0 : p.length = 0
    · have : p = [] := List.eq_nil_of_length_eq_zero h0
      subst this; rfl
    · have := tl_pos (C p) p.length (p.length - 1) (by omega) h
      rw [show tl (C p) p.length = p.length by omega, List.take_length]
/-- A trimmed row. -/
def Trd (p : List UInt8) : Prop := p.length = 0 ∨ C p (p.length - 1) ≠ 0
theorem tr_trd (f : Nat → UInt8) (n : Nat) : Trd (tr f n) := by
  unfold Trd
  rw [tr_length]
  by_cases h : tl f n = 0
  · exact .inl h
  · have hl := tl_last f n (by omega)
    refine .inr ?_
    rw [C_get _ _ (by rw [tr_length]; omega)]
    simpa [tr] using hl
/-- What the division by something tells: a quotient and a rest, both trimmed, the rest the shorter, and they make the dividend. -/
def DivOk (p q Q R : List UInt8) : Prop := (C p = fun x => PM Q (C q) x ^^^ C R x) ∧ R.length < (tr (C q) q.length).length ∧ Trd Q ∧ Trd R
theorem PM_nought (p s : List UInt8) : PM (0 :: p) (C s) = sh (PM p (C s)) := by
  funext n
  show ma 0 (C s n) ^^^ _ = _
  rw [zero_ma, zero_x]
end Go.Proofs.Ytkldapdebjlfmaa
