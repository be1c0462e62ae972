import Derived.Test.YtjclfkbhakjdaaaDoorBlQY
import Derived.Test.YtjclfkbhakjdaaaDoorBtOY
import Derived.Test.YtjclfkbhakjdaaaDoorShDY
import Derived.Test.YtjclfkbhakjdaaaDoorTrMY
import Derived.Test.YtjclfkbhakjdaaaDoorTuLY
namespace Go.Proofs.YtjclfkbhakjdaaaDoor
open Go.RowKit Go.Shelf
theorem tri_le {t : UInt8} (h : t.toNat ≤ 2) : Tu.IsTri t := by
 have e : ∀ c : UInt8, t.toNat = c.toNat → t = c := fun c h => UInt8.toNat_inj.1 h
 unfold Tu.IsTri
 rcases (show t.toNat = 0 ∨ t.toNat = 1 ∨ t.toNat = 2 by omega) with h | h | h
 · exact .inl (e 0 h)
 · exact .inr (.inl (e 1 h))
 · exact .inr (.inr (e 2 h))
theorem let_fine {s : List UInt8} (h : ∀ c ∈ s, Tu.IsLet c) : Bl.Fine s := Bl.fine_of fun i hi => by
 have := h s[i] (List.getElem_mem hi)
 rcases this with e | e | e | e <;> rw [e] <;> decide
def bodyG (t : List UInt8) : List UInt8 := (Tu.wB 65 t).1
theorem is_A : Tu.IsLet 65 := .inl rfl
theorem body_facts {t : List UInt8} (h : ∀ x ∈ t, Tu.IsTri x) : Tu.wB 65 t = (bodyG t, none) ∧ (bodyG t).length = t.length ∧ (∀ c ∈ bodyG t, Tu.IsLet c) ∧ (∀ i (hi : i < (bodyG t).length), (bodyG t)[i] ≠ (65 :: bodyG t)[i]'(by simp; omega)) ∧ Tu.wT 65 (bodyG t) = (t, none) := by
 obtain ⟨s, h1, h2, h3, h4, h5⟩ := Tu.walk_turn t 65 is_A h
 have e : bodyG t = s := by unfold bodyG; rw [h1]
 subst e
 exact ⟨h1, h2, h3, h4, h5⟩
def kG (s : List UInt8) : Nat := ((List.range (s.length + 1)).find? fun k => decide (2 * Bl.mk s k = (s.length : Int))).getD 0
theorem kG_is {s : List UInt8} {k : Nat} (h : Bl.FindYes s k) : k = kG s := by
 obtain ⟨h1, -, h3, h4⟩ := h
 unfold kG
 have hf : (List.range (s.length + 1)).find? (fun k => decide (2 * Bl.mk s k = (s.length : Int))) = some k := by
  rw [List.find?_eq_some_iff_getElem]
  refine ⟨decide_eq_true h3, k, by simp; omega, by simp, fun j hj => ?_⟩
  simp only [List.getElem_range]
  rw [decide_eq_false (h4 j hj)]
  rfl
 rw [hf]
 rfl
theorem kG_yes {s : List UInt8} (hf : Bl.Fine s) (hev : s.length % 2 = 0) : Bl.FindYes s (kG s) := by
 obtain ⟨k, hk, he⟩ := Bl.some_half hf hev
 -- the least one
 have : ∀ m, (∃ k, k ≤ m ∧ 2 * Bl.mk s k = (s.length : Int)) → ∃ k, k ≤ m ∧ 2 * Bl.mk s k = (s.length : Int) ∧ ∀ j, j < k → 2 * Bl.mk s j ≠ (s.length : Int) := by
  intro m
  induction m with
  | zero =>
    rintro ⟨k, hk, he⟩
    exact ⟨k, hk, he, fun j hj => by omega⟩
  | succ m ih =>
    rintro ⟨k, hk, he⟩
    by_cases hx : ∃ k, k ≤ m ∧ 2 * Bl.mk s k = (s.length : Int)
    · obtain ⟨k', h1, h2, h3⟩ := ih hx
      exact ⟨k', by omega, h2, h3⟩
    · exact ⟨k, hk, he, fun j hj h => hx ⟨j, by omega, h⟩⟩
 obtain ⟨k', h1, h2, h3⟩ := this k ⟨k, Nat.le_refl _, he⟩
 have hy : Bl.FindYes s k' := ⟨by omega, hf, h2, h3⟩
 rw [← kG_is hy]
 exact hy
def widG (n : Nat) : Nat := Bl.widthOf (n : Nat)
def indexG (s : List UInt8) : List UInt8 := Bt.fieldOf (Bt.numOf (kG s) (widG s.length))
def letG (s : List UInt8) : List UInt8 := indexG s ++ Bl.flipOf s (kG s)
theorem indexG_length (s : List UInt8) : (indexG s).length = widG s.length := by unfold indexG; rw [Bt.fieldOf_length, Bt.numOf_length]
theorem letG_length (s : List UInt8) : (letG s).length = widG s.length + s.length := by
 unfold letG
 rw [List.length_append, indexG_length, Bl.flipOf_length]
theorem wid_facts {n k : Nat} (hk : k ≤ n) (hn : n ≤ 300) : widG n ≤ 10 ∧ widG n % 2 = 0 ∧ k < 2 ^ widG n ∧ Lib.bitLen k ≤ widG n := by
 obtain ⟨u, h1, h2, h3, h4⟩ := Bl.width_room n k hk hn
 have e : widG n = 2 * u := h1
 rw [e]
 refine ⟨by omega, by omega, h4, ?_⟩
 rcases Nat.eq_zero_or_pos (Lib.bitLen k) with h0 | h0
 · omega
 · have := Bt.bitLen_ge k (by omega) h0
   rcases Nat.lt_or_ge (2 * u) (Lib.bitLen k) with h | h
   · have h5 : 2 ^ (2 * u) ≤ 2 ^ (Lib.bitLen k - 1) := Nat.pow_le_pow_right (by omega) (by omega)
     omega
   · exact h
def tritsG (b : List UInt8) : List UInt8 := Tr.packL b (b.length / 5)
def lettersG (b : List UInt8) : List UInt8 := letG (bodyG (tritsG b))
theorem tritsG_length (b : List UInt8) : (tritsG b).length = b.length / 5 * 26 := Tr.packL_length _ _
theorem tritsG_tri (b : List UInt8) : ∀ t ∈ tritsG b, Tu.IsTri t := fun t ht => tri_le (Tr.packL_le _ _ t ht)
end Go.Proofs.YtjclfkbhakjdaaaDoor
