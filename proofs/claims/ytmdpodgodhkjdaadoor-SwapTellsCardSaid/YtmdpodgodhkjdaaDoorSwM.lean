/- Mathematics of swaps: which letter, at which place, gives a word the sums that are asked for. -/
import Derived.Test.YtmdpodgodhkjdaaDoorLtA
namespace Go.Proofs.YtmdpodgodhkjdaaDoor
open Go.RowKit Go.Shelf

theorem mod_hit {A E m w : Int} (h0 : 0 ≤ w) (h1 : w < m) : (A % m + E - w) % m = 0 ↔ (A + E) % m = w := by
  have e : (A + E) % m = (A % m + E) % m := by rw [Int.emod_add_emod]
  rw [e]
  generalize A % m + E = X
  constructor
  · intro h
    obtain ⟨k, hk⟩ := Int.dvd_of_emod_eq_zero h
    have : X = w + m * k := by omega
    rw [this, Int.add_mul_emod_self_left, Int.emod_eq_of_lt h0 h1]
  · intro h
    have h2 := Int.emod_add_mul_ediv X m
    have : X - w = m * (X / m) := by omega
    rw [this, Int.mul_emod_right]
/-- The code that must come in place of one. -/
def swC (d q : Int) : Int := (q + d + 4) % 4
theorem swC_range (d q : Int) : 0 ≤ swC d q ∧ swC d q < 4 := by unfold swC; omega
/-- Whether y has the sums that are asked for, with another letter at p. -/
def hitB (y : List UInt8) (s w : Int) (p : Nat) : Bool :=
  decide ((sW y y.length % (6 * y.length + 1) + (swC (s - sS y y.length % 4) (codeOf (atB y p).toNat) - codeOf (atB y p).toNat) * ((p : Int) + 1) - w) % (6 * y.length + 1) = 0)
/-- The letter that comes in place of that at p. -/
def letB (y : List UInt8) (s : Int) (p : Nat) : UInt8 := letterOf (swC (s - sS y y.length % 4) (codeOf (atB y p).toNat))
def FourL (y : List UInt8) : Prop := ∀ k, k < y.length → codeOf (atB y k).toNat ≠ -1
theorem FourL.set {y : List UInt8} (h : FourL y) (p : Nat) {c : UInt8} (hc : codeOf c.toNat ≠ -1) : FourL (y.set p c) := by
  intro k hk
  rw [List.length_set] at hk
  by_cases e : p = k
  · subst e; rw [atB_set y p c hk]; exact hc
  · rw [atB_set_other y c e]; exact h k hk
theorem letB_code (y : List UInt8) (s : Int) (p : Nat) : codeOf (letB y s p).toNat = swC (s - sS y y.length % 4) (codeOf (atB y p).toNat) := by
  have := swC_range (s - sS y y.length % 4) (codeOf (atB y p).toNat)
  rw [letB, letterOf_code, Int.emod_eq_of_lt this.1 this.2]
/-- The sum of letters, with that letter at p, is the one that is asked for. -/
theorem letB_S (y : List UInt8) (s : Int) (p : Nat) (hp : p < y.length) (h0 : 0 ≤ s) (h4 : s < 4) : sS (y.set p (letB y s p)) y.length % 4 = s := by
  rw [sS_set y p _ hp, if_pos hp, letB_code]
  unfold swC
  omega
theorem hit_iff (y : List UInt8) (s w : Int) (p : Nat) (hp : p < y.length) (h0 : 0 ≤ w) (h1 : w ≤ 6 * y.length) :
    hitB y s w p = true ↔ sW (y.set p (letB y s p)) y.length % (6 * y.length + 1) = w := by
  rw [sW_set y p _ hp, if_pos hp, letB_code, hitB, decide_eq_true_eq]
  exact mod_hit h0 (by omega)
/-- Another letter with the sums is that one. -/
theorem letB_only (y : List UInt8) (hy : FourL y) (s : Int) (p : Nat) (c : UInt8) (hp : p < y.length) (hc : codeOf c.toNat ≠ -1) (hs : sS (y.set p c) y.length % 4 = s) : c = letB y s p := by
  have hb := code_bound hc
  have hb2 := code_bound (hy p hp)
  rw [sS_set y p c hp, if_pos hp] at hs
  refine code_inj ?_ hc
  rw [letB_code]
  unfold swC
  omega
theorem hit_only (y : List UInt8) (hy : FourL y) (s w : Int) (p : Nat) (c : UInt8) (hp : p < y.length) (hc : codeOf c.toNat ≠ -1) (h0 : 0 ≤ w) (h1 : w ≤ 6 * y.length) (hs : sS (y.set p c) y.length % 4 = s) (hw : sW (y.set p c) y.length % (6 * y.length + 1) = w) : hitB y s w p = true ∧ c = letB y s p := by
  have e := letB_only y hy s p c hp hc hs
  refine ⟨(hit_iff y s w p hp h0 h1).2 ?_, e⟩
  rw [← e]; exact hw
/-- The place and the letter with which y has the sums, or the error. -/
def findG (y : List UInt8) (s w : Int) : Except Int (Int × UInt8) :=
  match sumsG y with
  | .error m => .error m
  | .ok (_, S, W) => if S = s ∧ W = w then .ok (-1, 0) else if ¬ (0 ≤ s ∧ s < 4 ∧ 0 ≤ w ∧ w ≤ 6 * y.length) then .error 130 else
    match (List.range y.length).find? (hitB y s w) with
    | none => .error 130
    | some p => .ok ((p : Int), letB y s p)
/-- y with another letter at a place, or the error. -/
def byG (y : List UInt8) (z : Int) (c : UInt8) : Except Int (List UInt8) :=
  if 1000 < y.length ∨ z < 0 ∨ (y.length : Int) ≤ z then .error 2 else
    match sumsG y with
    | .error m => .error m
    | .ok _ => if codeOf c.toNat = -1 then .error 10 else .ok (y.set z.toNat c)
def swapG (y : List UInt8) (s w : Int) : Except Int (List UInt8) :=
  match findG y s w with
  | .error m => .error m
  | .ok (z, c) => if z = -1 then .ok y else byG y z c
theorem sums_cases (y : List UInt8) : (mayB y.length = false ∧ sumsG y = .error 2) ∨ (2 ≤ y.length ∧ y.length ≤ 1000 ∧ ¬ FourL y ∧ sumsG y = .error 10) ∨
    (2 ≤ y.length ∧ y.length ≤ 1000 ∧ FourL y ∧ sumsG y = .ok (sT y y.length % y.length, sS y y.length % 4, sW y y.length % (6 * y.length + 1))) := by
  cases hm : mayB y.length with
  | false => exact .inl ⟨rfl, by rw [sumsG, if_pos hm]⟩
  | true =>
    have hn : 2 ≤ y.length ∧ y.length ≤ 1000 := by
      unfold mayB at hm
      rw [Bool.and_eq_true] at hm
      have h1 := of_decide_eq_true hm.1
      have h2 := of_decide_eq_true hm.2
      omega
    by_cases h : FourL y
    · exact .inr (.inr ⟨hn.1, hn.2, h, four_sums y hn.1 hn.2 h⟩)
    · refine .inr (.inl ⟨hn.1, hn.2, h, ?_⟩)
      have : ∃ k, k < y.length ∧ codeOf (atB y k).toNat = -1 := by
        apply Classical.byContradiction
        intro hne
        exact h fun k hk e => hne ⟨k, hk, e⟩
      rw [sumsG, if_neg (by rw [hm]; simp), if_pos this]
theorem find_first {n : Nat} {f : Nat → Bool} {p : Nat} (hp : p < n) (h : f p = true) (hno : ∀ j, j < p → f j = false) : (List.range n).find? f = some p := by
  rw [List.find?_range_eq_some]
  exact ⟨h, by simpa using hp, by simpa using hno⟩
theorem find_not {n : Nat} {f : Nat → Bool} (hno : ∀ j, j < n → f j = false) : (List.range n).find? f = none := by
  rw [List.find?_eq_none]
  intro x hx
  rw [hno x (by simpa using hx)]
  simp
end Go.Proofs.YtmdpodgodhkjdaaDoor
