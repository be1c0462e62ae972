import Derived.Test.YtcngnjkpnmpcpaaDoorGCZ
import Derived.Test.YtcngnjkpnmpcpaaDoorGH2Z
import Derived.Test.YtcngnjkpnmpcpaaDoorPbBZ
namespace Go.Proofs.YtcngnjkpnmpcpaaDoor
open Go.RowKit Go.Shelf
attribute [local go_sem] Oper.semAt_some run_store_func
def finR (all : List (List UInt8)) (i : Nat) (acc : Bool) : Nat → Bool
  | 0 => acc
  | k + 1 => finR all i acc k && decide (5 ≤ dC (all[i]?.getD []) (all[k]?.getD []))
def finA (all : List (List UInt8)) : Nat → Bool
  | 0 => true
  | i + 1 => finR all i (finA all i && oneG (all[i]?.getD [])) i
theorem finR_is (all : List (List UInt8)) (i : Nat) (acc : Bool) : ∀ k, k ≤ all.length → finR all i acc k = (acc && (all.take k).all fun o => decide (5 ≤ dC (all[i]?.getD []) o)) := by
 intro k
 induction k with
 | zero => intro _; simp [finR]
 | succ k ih =>
   intro hk
   rw [finR, ih (by omega), List.take_succ_eq_append_getElem (by omega), List.all_append, List.getElem?_eq_getElem (show k < all.length by omega)]
   simp [Bool.and_assoc]
theorem finA_is (all : List (List UInt8)) : ∀ i, i ≤ all.length → finA all i = chkF [] (all.take i) := by
 intro i
 induction i with
 | zero => intro _; rfl
 | succ i ih =>
   intro hi
   rw [finA, finR_is all i _ i (by omega), ih (by omega), List.take_succ_eq_append_getElem (by omega), chkF_snoc, List.getElem?_eq_getElem (show i < all.length by omega)]
   unfold takeB
   simp [Bool.and_assoc]
theorem finR_succ (all : List (List UInt8)) (i k : Nat) (acc : Bool) (x : List UInt8) (hi : all[i]? = some x) (hk : k < all.length) : finR all i acc (k + 1) = (finR all i acc k && decide (5 ≤ dC x all[k])) := by
 rw [finR, hi, List.getElem?_eq_getElem hk]
 rfl
theorem chkE_fin (L : List Pr) (h : L.length ≤ 8) : chkE L = if finA (allP L) (allP L).length = true then 0 else 200 := by
 unfold chkE chkB
 rw [decide_eq_true h, Bool.true_and, finA_is _ _ (Nat.le_refl _), List.take_length]
def DsE (N : World) (x y : List UInt8) (bd : Bool) (D : Nat → Bool) (g : Nat → Value) (w : World) : Prop :=
 DsS 6 11 N x y D g w ∧ (D 15 = false → g 15 = .bool true) ∧ (D 15 = true → g 15 = .bool bd) ∧ (D 15 = true → D 0 = true)
section
variable {N : World} {x y : List UInt8} {bd : Bool} {D : Nat → Bool} {g : Nat → Value} {w w' : World}
theorem DsE.keep {j : Nat} (h : DsE N x y bd D g w) (h6 : 6 ≠ j) (h11 : 11 ≠ j) (h15 : 15 ≠ j) (h0 : 0 ≠ j) (hB : Below w.heap.size w w') : DsE N x y bd (upd D j) g w' := by
 obtain ⟨a, b, c, d⟩ := h
 refine ⟨a.keep h6 h11 hB, ?_, ?_, ?_⟩ <;> rw [upd_other D h15]
 · exact b
 · exact c
 · rw [upd_other D h0]
   exact d
theorem DsE.same {j : Nat} (h : DsE N x y bd D g w) (h6 : 6 ≠ j) (h11 : 11 ≠ j) (h15 : 15 ≠ j) (h0 : 0 ≠ j) : DsE N x y bd (upd D j) g w := h.keep h6 h11 h15 h0 (Below.refl _ _)
theorem DsE.op0 (h : DsE N x y bd D g w) : DsE N x y bd (upd D 0) g w := by
 obtain ⟨a, b, c, d⟩ := h
 refine ⟨a.same (by decide) (by decide), ?_, ?_, fun _ => upd_same D 0⟩ <;> rw [upd_other D (show 15 ≠ 0 by decide)]
 · exact b
 · exact c
theorem DsE.at0 (h : DsE N x y bd D g w) (hD : D 0 = false) : g 15 = .bool true := by
 refine h.2.1 ?_
 cases e : D 15 with
 | false => rfl
 | true => rw [h.2.2.2 e] at hD; cases hD
theorem DsE.first {v : Value} (h : DsE N x y bd D g w) (hB : Below w.heap.size w w') (hv : Sl eB w'.heap.size w' v x) : DsE N x y bd (upd D 6) (fun j => if j = 6 then v else g j) w' := by
 obtain ⟨a, b, c, d⟩ := h
 refine ⟨a.first (by decide) hB hv, ?_, ?_, ?_⟩ <;> rw [upd_other D (show 15 ≠ 6 by decide)]
 · exact b
 · exact c
 · rw [upd_other D (show 0 ≠ 6 by decide)]
   exact d
theorem DsE.second {v : Value} (h : DsE N x y bd D g w) (hB : Below w.heap.size w w') (hv : Sl eB w'.heap.size w' v y) : DsE N x y bd (upd D 11) (fun j => if j = 11 then v else g j) w' := by
 obtain ⟨a, b, c, d⟩ := h
 refine ⟨a.second (by decide) hB hv, ?_, ?_, ?_⟩ <;> rw [upd_other D (show 15 ≠ 11 by decide)]
 · exact b
 · exact c
 · rw [upd_other D (show 0 ≠ 11 by decide)]
   exact d
theorem DsE.op15 (h : DsE N x y bd D g w) (h0 : D 0 = true) : DsE N x y bd (upd D 15) (fun j => if j = 15 then .bool bd else g j) w := by
 obtain ⟨⟨a1, a2, a3⟩, b, c, d⟩ := h
 refine ⟨⟨a1, ?_, ?_⟩, ?_, fun _ => rfl, fun _ => ?_⟩
 · rw [upd_other D (show 6 ≠ 15 by decide)]; exact a2
 · rw [upd_other D (show 11 ≠ 15 by decide)]; exact a3
 · rw [upd_same]; intro h; cases h
 · rw [upd_other D (show 0 ≠ 15 by decide)]; exact h0
end
end Go.Proofs.YtcngnjkpnmpcpaaDoor
