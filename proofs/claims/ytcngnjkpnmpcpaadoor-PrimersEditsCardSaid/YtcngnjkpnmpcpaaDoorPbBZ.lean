import Derived.Test.YtcngnjkpnmpcpaaDoorPbAZ
import Derived.Test.YtcngnjkpnmpcpaaDoorRdEZ
namespace Go.Proofs.YtcngnjkpnmpcpaaDoor
open Go.RowKit Go.Shelf
attribute [local go_sem] Oper.semAt_some run_store_func
def DsS (i k : Nat) (N : World) (x y : List UInt8) (D : Nat → Bool) (g : Nat → Value) (w : World) : Prop :=
 Below N.heap.size N w ∧ (D i = true → Sl eB w.heap.size w (g i) x) ∧ (D k = true → Sl eB w.heap.size w (g k) y)
section
variable {i k : Nat} {N : World} {x y : List UInt8} {D : Nat → Bool} {g : Nat → Value} {w w' : World}
theorem DsS.keep {j : Nat} (h : DsS i k N x y D g w) (h1 : i ≠ j) (h2 : k ≠ j) (hB : Below w.heap.size w w') : DsS i k N x y (upd D j) g w' := by
 unfold DsS
 rw [upd_other D h1, upd_other D h2]
 exact ⟨below_trans h.1 hB, fun hd => (h.2.1 hd).next hB, fun hd => (h.2.2 hd).next hB⟩
theorem DsS.same {j : Nat} (h : DsS i k N x y D g w) (h1 : i ≠ j) (h2 : k ≠ j) : DsS i k N x y (upd D j) g w := h.keep h1 h2 (Below.refl _ _)
theorem DsS.first {v : Value} (h : DsS i k N x y D g w) (hik : i ≠ k) (hB : Below w.heap.size w w') (hv : Sl eB w'.heap.size w' v x) : DsS i k N x y (upd D i) (fun j => if j = i then v else g j) w' := by
 unfold DsS
 rw [upd_same, upd_other D (Ne.symm hik)]
 refine ⟨below_trans h.1 hB, fun _ => by simpa using hv, fun hd => ?_⟩
 simp only [if_neg (Ne.symm hik)]
 exact (h.2.2 hd).next hB
theorem DsS.second {v : Value} (h : DsS i k N x y D g w) (hik : i ≠ k) (hB : Below w.heap.size w w') (hv : Sl eB w'.heap.size w' v y) : DsS i k N x y (upd D k) (fun j => if j = k then v else g j) w' := by
 unfold DsS
 rw [upd_same, upd_other D hik]
 refine ⟨below_trans h.1 hB, fun hd => ?_, fun _ => by simpa using hv⟩
 simp only [if_neg hik]
 exact (h.2.1 hd).next hB
end
end Go.Proofs.YtcngnjkpnmpcpaaDoor
