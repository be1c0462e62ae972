/- What work keeps that writes two boxes. Of no program. -/
import Derived.Test.YtmdpodgodhkjdaaDoorRQ
namespace Go.Proofs.YtmdpodgodhkjdaaDoor
open Go.RowKit

/-- All blocks below B but g1 and g2 are as they were. -/
def Kp2 (B g1 g2 : Nat) (W W' : World) : Prop := (W'.os = W.os ∧ W'.tape = W.tape ∧ W'.output = W.output ∧ W.heap.size ≤ W'.heap.size) ∧ ∀ k, k < B → k ≠ g1 → k ≠ g2 → W'.heap[k]? = W.heap[k]?
theorem kp2_of {B g1 g2 : Nat} {W W' : World} (h : Below B W W') : Kp2 B g1 g2 W W' := ⟨⟨h.os, h.tape, h.output, h.size⟩, fun k hk _ _ => h.block k hk⟩
theorem kp2_t {B g1 g2 : Nat} {X Y Z : World} (h : Kp2 B g1 g2 X Y) (k : Kp2 B g1 g2 Y Z) : Kp2 B g1 g2 X Z :=
  ⟨⟨k.1.1.trans h.1.1, k.1.2.1.trans h.1.2.1, k.1.2.2.1.trans h.1.2.2.1, Nat.le_trans h.1.2.2.2 k.1.2.2.2⟩, fun i hi ha hb => (k.2 i hi ha hb).trans (h.2 i hi ha hb)⟩
theorem kp2_set1 (B g1 g2 j : Nat) (W : World) (v : Value) : Kp2 B g1 g2 W (W.setCell ⟨g1, j, none⟩ v) :=
  ⟨⟨rfl, rfl, rfl, by simp [World.setCell]⟩, fun _ _ hg _ => Below.heap_setCell _ _ _ _ hg⟩
theorem kp2_set2 (B g1 g2 j : Nat) (W : World) (v : Value) : Kp2 B g1 g2 W (W.setCell ⟨g2, j, none⟩ v) :=
  ⟨⟨rfl, rfl, rfl, by simp [World.setCell]⟩, fun _ _ _ hg => Below.heap_setCell _ _ _ _ hg⟩
theorem kp2_size {B g1 g2 : Nat} {W W' : World} (h : Kp2 B g1 g2 W W') : W.heap.size ≤ W'.heap.size := h.1.2.2.2
theorem kp2_keep {B g : Nat} {W W' : World} (h : Keep B g W W') : Kp2 B g g W W' := ⟨h.1, fun k hk hg _ => h.2 k hk hg⟩
theorem Kp2.boxed {B g1 g2 b : Nat} {W W' : World} {t : TypeId} {v : Value} (h : Kp2 B g1 g2 W W') (hb : Boxed W b t v) (h1 : b < B) (h2 : b ≠ g1) (h3 : b ≠ g2) : Boxed W' b t v := (h.2 b h1 h2 h3).trans hb
theorem below_of_kp2 {B g1 g2 s : Nat} {w W W' : World} (h : Kp2 B g1 g2 W W') (hB : Below s w W) (h1 : s ≤ B) (h2 : s ≤ g1) (h3 : s ≤ g2) : Below s w W' :=
  hB.trans ⟨h.1.1, h.1.2.1, h.1.2.2.1, h.1.2.2.2, fun k hk => h.2 k (by omega) (by omega) (by omega)⟩
end Go.Proofs.YtmdpodgodhkjdaaDoor
