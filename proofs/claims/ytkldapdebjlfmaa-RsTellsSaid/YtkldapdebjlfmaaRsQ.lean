/- A byte of a row of its own is set. -/
import Derived.Test.YtkldapdebjlfmaaRsO
namespace Go.Proofs.Ytkldapdebjlfmaa
open Go.RowKit Go.Shelf

theorem own_set {B : Nat} {w : World} {v : Value} {xs : List UInt8} (h : Own8 B w v xs) (j : Nat) (hj : j < xs.length) :
    ∃ g cap, v = .slice (some ⟨g, 0, none⟩) xs.length cap ∧ B ≤ g ∧ g < w.heap.size ∧ w.cell? ⟨g, j, none⟩ = some (eB (C xs j)) ∧ w.frozen? ⟨g, j, none⟩ = false ∧
      ∀ (w' : World) (u : UInt8), w'.heap[g]? = w.heap[g]? → Own8 B (w'.setCell ⟨g, j, none⟩ (eB u)) v (xs.set j u) := by
  rcases h.2 with ⟨_, h1⟩ | ⟨g, cap, cs, e, hB, hg, hn, hm, hsz, htake⟩
  · omega
  · rw [Nat.mul_one] at hsz htake
    have hr : Rowed w g 5 cs := hg
    have hget : ∀ i, i < xs.length → cs[i]? = some (eB (C xs i)) := fun i hi => by
      have h1 : (cs.toList.take xs.length)[i]? = (xs.map eB)[i]? := by rw [htake]
      rw [List.getElem?_take_of_lt hi, Array.getElem?_toList] at h1
      rw [h1, C_get xs i hi]
      simp [hi]
    refine ⟨g, cap, e, hB, hr.lt, by rw [hr.cell j, hget j hj], hr.frozen j, fun w' u hw => ?_⟩
    have hr' : Rowed w' g 5 cs := hw.trans hg
    have hs := hr'.set j (eB u)
    refine ⟨by simp, .inr ⟨g, cap, cs.setIfInBounds j (eB u), by rw [e, List.length_set], hB, hs, by rw [List.length_set]; exact hn, hm, by simpa using hsz, ?_⟩⟩
    apply List.ext_getElem?
    intro i
    rw [List.length_set, Nat.mul_one]
    by_cases hi : i < xs.length
    · rw [List.getElem?_take_of_lt hi, Array.getElem?_toList, List.getElem?_map]
      by_cases e : i = j
      · subst e
        rw [Array.getElem?_setIfInBounds_self_of_lt (by omega), List.getElem?_set_self hi]
        rfl
      · rw [Array.getElem?_setIfInBounds_ne (fun h => e h.symm), hget i hi, List.getElem?_set_ne (fun h => e h.symm), C_get xs i hi]
        simp [hi]
    · rw [List.getElem?_eq_none (by simp; omega), List.getElem?_eq_none (by simp; omega)]
/-- The first k bytes put together with others. -/
def mixL (x y : List UInt8) (k : Nat) : List UInt8 := (List.range x.length).map fun j => if j < k then C x j ^^^ C y j else C x j
theorem mixL_length (x y : List UInt8) (k : Nat) : (mixL x y k).length = x.length := by simp [mixL]
theorem mixL_zero (x y : List UInt8) : mixL x y 0 = x := by
  apply List.ext_getElem
  · simp [mixL]
  · intro i h1 h2
    simp only [mixL, List.getElem_map, List.getElem_range]
    rw [if_neg (by omega), C_get x i h2]
theorem C_mixL (x y : List UInt8) (k j : Nat) (h : j < x.length) : C (mixL x y k) j = if j < k then C x j ^^^ C y j else C x j := by
  rw [mixL, C_range_lt _ _ _ h]
theorem mixL_set (x y : List UInt8) (k : Nat) : (mixL x y k).set k (C x k ^^^ C y k) = mixL x y (k + 1) := by
  apply List.ext_getElem
  · simp [mixL]
  · intro i h1 h2
    rw [List.getElem_set]
    simp only [mixL, List.getElem_map, List.getElem_range]
    by_cases e : k = i
    · subst e; rw [if_pos rfl, if_pos (by omega)]
    · rw [if_neg e]
      by_cases h : i < k
      · rw [if_pos h, if_pos (by omega)]
      · rw [if_neg h, if_neg (by omega)]
/-- How many bytes are unlike. -/
def unlike (a b : Nat → UInt8) (n : Nat) : Nat := ((List.range n).filter fun j => a j ≠ b j).length
theorem unlike_le (a b : Nat → UInt8) (n : Nat) : unlike a b n ≤ n := by
  have := List.length_filter_le (fun j => decide (a j ≠ b j)) (List.range n)
  rw [List.length_range] at this
  exact this
theorem unlike_succ (a b : Nat → UInt8) (n : Nat) : unlike a b (n + 1) = unlike a b n + (if a n = b n then 0 else 1) := by
  simp only [unlike, List.range_succ, List.filter_append, List.length_append]
  congr 1
  by_cases h : a n = b n <;> simp [h]
theorem unlike_same (a b : Nat → UInt8) (n : Nat) (h : ∀ j, j < n → a j = b j) : unlike a b n = 0 := by
  induction n with
  | zero => rfl
  | succ n ih => rw [unlike_succ, ih (fun j hj => h j (by omega)), if_pos (h n (by omega))]
/-- Of two right words that are unlike more than p bytes are unlike. -/
theorem words_apart (x y : List UInt8) (p : Nat) (hl : y.length = x.length) (hN : x.length + p ≤ 255) (hne : x ≠ y) : p < unlike (C (x ++ restL p x)) (C (y ++ restL p y)) (x.length + p) := by
  apply Classical.byContradiction
  intro hlt
  have h := rig_few hN (rig_word x p) (by rw [← hl]; exact rig_word y p) (by unfold unlike at hlt; omega)
  refine hne (List.ext_getElem hl.symm fun i h1 h2 => ?_)
  have h3 := h i (by omega)
  simpa [C, List.getElem?_append_left h1, List.getElem?_append_left h2, h1, h2] using h3
end Go.Proofs.Ytkldapdebjlfmaa
