/- Mathematics of ClusterOrder: a read turned about is as clean, and its lesser one the same. (Seat s26.) -/
import Derived.Test.YtgblkcddhnigaaaDoorClX
import Derived.Test.YtgblkcddhnigaaaDoorRcB
namespace Go.Proofs.YtgblkcddhnigaaaDoor
open Go.RowKit

theorem letter_code {z : Int} (h0 : 0 ≤ z) (h3 : z ≤ 3) : codeOf (letterOf z).toNat = z := by
  have hz : z = 0 ∨ z = 1 ∨ z = 2 ∨ z = 3 := by omega
  rcases hz with rfl | rfl | rfl | rfl <;> rfl
theorem codes_ok {bs : List UInt8} (h : (-1 : Int) ∉ codesOf bs) : ∀ z ∈ codesOf bs, 0 ≤ z ∧ z ≤ 3 := fun z hz => by
  obtain ⟨b, hb, rfl⟩ := List.mem_map.1 hz
  have h1 := codeOf_range b.toNat
  have h2 : codeOf b.toNat ≠ -1 := fun e => h (by rw [← e]; exact hz)
  omega
theorem codes_rc {bs : List UInt8} (h : (-1 : Int) ∉ codesOf bs) : codesOf (rcOf bs) = (codesOf bs).reverse.map fun z => 3 - z := by
  have hk := codes_ok h
  unfold rcOf
  generalize codesOf bs = l at *
  unfold codesOf
  rw [List.map_map]
  refine List.map_congr_left fun z hz => ?_
  have := hk z (List.mem_reverse.1 hz)
  exact letter_code (by omega) (by omega)
theorem rc_ok {bs : List UInt8} (h : (-1 : Int) ∉ codesOf bs) : (-1 : Int) ∉ codesOf (rcOf bs) := by
  rw [codes_rc h]
  intro hm
  obtain ⟨z, hz, e⟩ := List.mem_map.1 hm
  have := codes_ok h z (List.mem_reverse.1 hz)
  omega
theorem letter_of_code {b : UInt8} (h : codeOf b.toNat ≠ -1) : letterOf (codeOf b.toNat) = b := by
  rcases code_four h with rfl | rfl | rfl | rfl <;> rfl
theorem letters_codes {bs : List UInt8} (h : (-1 : Int) ∉ codesOf bs) : (codesOf bs).map letterOf = bs := by
  unfold codesOf at h ⊢
  rw [List.map_map]
  conv => rhs; rw [← List.map_id bs]
  refine List.map_congr_left fun b hb => ?_
  exact letter_of_code fun e => h (by rw [← e]; exact List.mem_map.2 ⟨b, hb, rfl⟩)
theorem rc_rc {bs : List UInt8} (h : (-1 : Int) ∉ codesOf bs) : rcOf (rcOf bs) = bs := by
  have e : rcOf (rcOf bs) = ((codesOf (rcOf bs)).reverse.map fun n => letterOf (3 - n)) := rfl
  rw [e, codes_rc h, ← List.map_reverse, List.reverse_reverse, List.map_map]
  conv => rhs; rw [← letters_codes h]
  refine List.map_congr_left fun z _ => ?_
  show letterOf (3 - (3 - z)) = letterOf z
  congr 1
  omega
theorem rc_len (bs : List UInt8) : (rcOf bs).length = bs.length := by simp [rcOf, codesOf]
theorem least_rc {bs : List UInt8} (h : (-1 : Int) ∉ codesOf bs) : (leastOf (rcOf bs)).1 = (leastOf bs).1 := by
  unfold leastOf
  rw [if_neg (rc_ok h), if_neg h, rc_rc h]
  by_cases h1 : Lib.compareBytes (rcOf bs) bs < 0
  · rw [if_pos h1, if_neg (compare_swap _ _ h1)]
  · rw [if_neg h1]
    by_cases h2 : Lib.compareBytes bs (rcOf bs) < 0
    · rw [if_pos h2]
    · rw [if_neg h2]
      exact (compare_total _ _ h1 h2)
theorem clean_rc {bs : List UInt8} (h : (-1 : Int) ∉ codesOf bs) : cleanB (rcOf bs) = cleanB bs := by
  unfold cleanB
  rw [rc_len]
  exact decide_eq_decide.2 ⟨fun ⟨a, b, _⟩ => ⟨a, b, h⟩, fun ⟨a, b, _⟩ => ⟨a, b, rc_ok h⟩⟩
/-- What of a read is told. -/
def tuF (b : List UInt8) : Option (List UInt8) := if cleanB b = true then some (leastOf b).1 else none
theorem tuL_filter (L : List (List UInt8)) : tuL L = L.filterMap tuF := by
  unfold tuL
  induction L with
  | nil => rfl
  | cons b L ih =>
    unfold tuF
    by_cases h : cleanB b = true
    · rw [List.filter_cons_of_pos h, List.map_cons, ih, List.filterMap_cons_some (by rw [if_pos h])]
      rfl
    · rw [List.filter_cons_of_neg h, ih, List.filterMap_cons_none (by rw [if_neg h])]
      rfl
theorem tuF_rc {bs : List UInt8} (h : (-1 : Int) ∉ codesOf bs) : tuF (rcOf bs) = tuF bs := by
  unfold tuF
  rw [clean_rc h, least_rc h]
theorem tuL_map {L M : List (List UInt8)} (h : L.map tuF = M.map tuF) : tuL L = tuL M := by
  have e : ∀ L : List (List UInt8), tuL L = (L.map tuF).filterMap id := fun L => by rw [tuL_filter, List.filterMap_map]; rfl
  rw [e, e, h]
/-- The rows from p on, and then the first ones. -/
def rotG (L : List (List UInt8)) (p : Nat) : List (List UInt8) := (List.range L.length).map fun i => (L[(i + p) % L.length]?).getD []
theorem rotG_perm (L : List (List UInt8)) (p : Nat) (hp : p < L.length) : (rotG L p).Perm L := by
  have e : rotG L p = L.drop p ++ L.take p := by
    refine List.ext_getElem? fun i => ?_
    by_cases hi : i < L.length
    · have h1 : (rotG L p)[i]? = some ((L[(i + p) % L.length]?).getD []) := by
        unfold rotG
        simp [hi]
      rw [h1, List.getElem?_append, List.length_drop]
      by_cases hq : i < L.length - p
      · rw [if_pos hq, List.getElem?_drop]
        have hm : (i + p) % L.length = p + i := by rw [Nat.mod_eq_of_lt (by omega)]; omega
        rw [hm, List.getElem?_eq_getElem (by omega)]
        rfl
      · rw [if_neg hq, List.getElem?_take, if_pos (by omega)]
        have hm : (i + p) % L.length = i - (L.length - p) := by
          rw [Nat.mod_eq_sub_mod (by omega), Nat.mod_eq_of_lt (by omega)]; omega
        rw [hm, List.getElem?_eq_getElem (by omega)]
        rfl
    · have h1 : (rotG L p)[i]? = none := by rw [List.getElem?_eq_none_iff]; simp [rotG]; omega
      have h2 : (L.drop p ++ L.take p)[i]? = none := by rw [List.getElem?_eq_none_iff, List.length_append, List.length_drop, List.length_take]; omega
      rw [h1, h2]
  rw [e]
  refine List.perm_append_comm.trans ?_
  rw [List.take_append_drop]
end Go.Proofs.YtgblkcddhnigaaaDoor
