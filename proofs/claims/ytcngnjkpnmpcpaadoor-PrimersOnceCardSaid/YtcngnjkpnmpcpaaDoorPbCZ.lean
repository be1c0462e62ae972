import Derived.Test.YtcngnjkpnmpcpaaDoorGCZ
import Derived.Test.YtcngnjkpnmpcpaaDoorGH2Z
import Derived.Test.YtcngnjkpnmpcpaaDoorPbBZ
namespace Go.Proofs.YtcngnjkpnmpcpaaDoor
open Go.RowKit Go.Shelf
attribute [local go_sem] Oper.semAt_some run_store_func
def finR (all : List (List UInt8)) (i : Nat) (acc : Bool) : Nat → Bool
  | 0 => acc
  | k + 1 => finR all i acc k && decide (5 ≤ dC (all[i]?.getD []) (all[k]?.getD []))
def finA (all : List (List UInt8)) : Nat → Bool
  | 0 => true
  | i + 1 => finR all i (finA all i && oneG (all[i]?.getD [])) i
theorem finR_is (all : List (List UInt8)) (i : Nat) (acc : Bool) : ∀ k, k ≤ all.length → finR all i acc k = (acc && (all.take k).all fun o => decide (5 ≤ dC (all[i]?.getD []) o)) := by
 intro k
 induction k with
 | zero => intro _; simp [finR]
 | succ k ih =>
   intro hk
   rw [finR, ih (by omega), List.take_succ_eq_append_getElem (by omega), List.all_append, List.getElem?_eq_getElem (show k < all.length by omega)]
   simp [Bool.and_assoc]
theorem finA_is (all : List (List UInt8)) : ∀ i, i ≤ all.length → finA all i = chkF [] (all.take i) := by
 intro i
 induction i with
 | zero => intro _; rfl
 | succ i ih =>
   intro hi
   rw [finA, finR_is all i _ i (by omega), ih (by omega), List.take_succ_eq_append_getElem (by omega), chkF_snoc, List.getElem?_eq_getElem (show i < all.length by omega)]
   unfold takeB
   simp [Bool.and_assoc]
theorem chkE_fin (L : List Pr) (h : L.length ≤ 8) : chkE L = if finA (allP L) (allP L).length = true then 0 else 200 := by
 unfold chkE chkB
 rw [decide_eq_true h, Bool.true_and, finA_is _ _ (Nat.le_refl _), List.take_length]
section
variable {N : World} {x y : List UInt8} {bd : Bool} {D : Nat → Bool} {g : Nat → Value} {w w' : World}
end
end Go.Proofs.YtcngnjkpnmpcpaaDoor
