/- ConsensusAlone. (Seat s27.) -/
import Derived.Test.YtfkjheilcbppcaaCoR
import Derived.Test.YtfkjheilcbppcaaAG
namespace Go.Proofs.Ytfkjheilcbppcaa
open Go.RowKit Go.Shelf
attribute [local go_sem] Oper.semAt_some run_store_func

theorem ofG_nil : ofG [] = [] := rfl
theorem bsL_app (a b : List RowC) : bsL (a ++ b) = bsL a ++ bsL b := List.map_append
theorem bsL_nil (rows : List RowC) : bsL rows = [] ↔ rows = [] := by simp [bsL]
/-- One answer for all rows. -/
theorem Of_uni (v0 : Value) (rows : List RowC) (hr : rows.length ≤ 1000) (hl8 : ∀ p ∈ rows, p.bs.length ≤ 5000) (w : World) (h0 : RowsIn w v0 rows) :
    Calls Try.prog 14 #[v0] w fun e w' => Below w.heap.size w w' ∧ ∃ v, e = .returned (.tuple #[v, .bool (decide (rows ≠ []))]) ∧ Sl eB w'.heap.size w' v (ofG (bsL rows)) := by
  refine (CoOfm_any v0 rows hr hl8 w h0).mono ?_
  rintro e w' ⟨hB, ⟨h, rfl⟩ | ⟨h, v, rfl, hrow⟩⟩
  · have h' := (bsL_nil rows).1 h
    refine ⟨hB, _, by rw [h']; rfl, ?_⟩
    rw [h, ofG_nil]
    exact Sl.nil _ _ _
  · have h' : rows ≠ [] := fun e => h ((bsL_nil rows).2 e)
    exact ⟨hB, v, by rw [decide_eq_true h'], Sl.of_own hrow⟩
theorem rows_of {W0 W : World} {B : Nat} {v : Value} {rows : List RowC} (h : W.ownsRow B 23 1 v rows.length (rows.map eC)) (hR : ∀ p ∈ rows, Sl eB W0.heap.size W0 (eC p) p.bs) (hb : Below W0.heap.size W0 W) : RowsIn W v rows :=
  RowsIn.of_own h fun p hp => (hR p hp).next hb
theorem row_madeR (w : World) : (w.alloc (.cells #[] 23)).ownsRow w.heap.size 23 1 (.slice (some ⟨w.heap.size, 0, none⟩) 0 0) 0 [] :=
  ⟨rfl, .inr ⟨w.heap.size, 0, #[], rfl, Nat.le_refl _, World.alloc_heap_new _ _, Nat.le_refl _, by unfold maxLen; omega, rfl, rfl⟩⟩
theorem below_al (w : World) (o : Obj) : Below w.heap.size w (w.alloc o) := (Below.refl w.heap.size w).alloc (Nat.le_refl _) o
end Go.Proofs.Ytfkjheilcbppcaa
