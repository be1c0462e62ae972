/- The rest of the division is what is put behind. -/
import Derived.Test.YtkldapdebjlfmaaRtB
import Derived.Test.YtkldapdebjlfmaaRsQ
namespace Go.Proofs.Ytkldapdebjlfmaa
open Go.RowKit Go.Shelf

theorem PM_far (p q : List UInt8) (n : Nat) (h : p.length + q.length ≤ n) : PM p (C q) n = 0 := by
  cases p with
  | nil => rfl
  | cons a p => exact PM_big (a :: p) q n (by omega) (by simp)
theorem evProd (p q : List UInt8) (x : UInt8) : ev (tr (PM p (C q)) (p.length + q.length)) x = ma (ev p x) (ev q x) := by
  rw [← ev_mulR]
  exact ev_congr (by rw [C_tr _ _ (PM_far p q), C_mulR]) x
/-- The rest, as many bytes as there is room for. -/
def padR (R : List UInt8) (p : Nat) : List UInt8 := R ++ List.replicate (p - R.length) 0
theorem padR_length (R : List UInt8) (p : Nat) (h : R.length ≤ p) : (padR R p).length = p := by simp [padR]; omega
theorem C_pad (R : List UInt8) (p : Nat) : C (padR R p) = C R := by
  funext j
  simp only [C, padR]
  by_cases h : j < R.length
  · rw [List.getElem?_append_left h]
  · rw [List.getElem?_append_right (by omega), List.getElem?_replicate, List.getElem?_eq_none (by omega)]
    split <;> rfl
theorem C_glue (R d : List UInt8) (p : Nat) (h : R.length ≤ p) : C (padR R p ++ d) = fun k => C R k ^^^ C (shN p d) k := by
  have hl := padR_length R p h
  funext j
  rw [C_shN]
  show C (padR R p ++ d) j = C R j ^^^ (if j < p then 0 else C d (j - p))
  by_cases hj : j < p
  · rw [if_pos hj, x_zero, ← C_pad R p]
    simp only [C]
    rw [List.getElem?_append_left (by omega)]
  · rw [if_neg hj, C_big R j (by omega), zero_x]
    simp only [C]
    rw [List.getElem?_append_right (by omega), hl]
theorem rest_is (data : List UInt8) (p : Nat) (hN : data.length + p ≤ 255) (D Q R : List UInt8) (hD : C D = C (shN p data.reverse)) (h : DivOk D (RT (pows2 p)) Q R) : R.length ≤ p ∧ (padR R p).reverse = restL p data := by
  obtain ⟨h1, h2, h3, h4⟩ := h
  have hm := (RT_monic (pows2 p)).1
  rw [pows2_length] at hm
  have hR : R.length ≤ p := by
    rw [tr_length] at h2
    have := tl_le (C (RT (pows2 p))) (RT (pows2 p)).length
    omega
  refine ⟨hR, ?_⟩
  have hl := padR_length R p hR
  have hC : C (padR R p ++ data.reverse) = PM Q (C (RT (pows2 p))) := by
    rw [C_glue R _ p hR, ← hD, h1]
    funext k
    show C R k ^^^ (PM Q (C (RT (pows2 p))) k ^^^ C R k) = _
    rw [x_comm (PM Q _ k), ← x_assoc, x_self, zero_x]
  have hrig : Rig (C (data ++ (padR R p).reverse)) (data.length + p) p := by
    intro i hi
    have e1 := ev_reverse (data ++ (padR R p).reverse) (g2 i)
    rw [List.reverse_append, List.reverse_reverse, List.length_append, List.length_reverse, hl] at e1
    rw [← e1]
    have e2 : ev (padR R p ++ data.reverse) (g2 i) = ev (tr (PM Q (C (RT (pows2 p)))) (Q.length + (RT (pows2 p)).length)) (g2 i) := ev_congr (by rw [hC, C_tr _ _ (PM_far Q _)]) _
    rw [e2, evProd, (RT_iff (pows2 p) (g2 i)).2 (List.mem_map.2 ⟨i, List.mem_range.2 hi, rfl⟩), ma_zero]
  have hw := rig_word data p
  have hsame := rig_few hN hrig hw (by
    rw [List.range_add, List.filter_append, List.length_append]
    have g1 : (List.range data.length).filter (fun j => C (data ++ (padR R p).reverse) j ≠ C (data ++ restL p data) j) = [] := by
      rw [List.filter_eq_nil_iff]
      intro j hj
      rw [List.mem_range] at hj
      simp [C, List.getElem?_append_left hj]
    have g2' := List.length_filter_le (fun j => decide (C (data ++ (padR R p).reverse) j ≠ C (data ++ restL p data) j)) ((List.range p).map (data.length + ·))
    rw [List.length_map, List.length_range] at g2'
    rw [g1]
    simpa using g2')
  apply List.ext_getElem
  · rw [List.length_reverse, hl, restL_length]
  · intro i k1 k2
    have h5 := hsame (data.length + i) (by rw [restL_length] at k2; omega)
    simp only [C] at h5
    rw [List.getElem?_append_right (by omega), List.getElem?_append_right (by omega), Nat.add_sub_cancel_left, List.getElem?_eq_getElem k1, List.getElem?_eq_getElem k2] at h5
    simpa using h5
end Go.Proofs.Ytkldapdebjlfmaa
