import Derived.Test.YtcngnjkpnmpcpaaDoorRZ
namespace Go.Proofs.YtcngnjkpnmpcpaaDoor
open Go.RowKit
def Keep (B g : Nat) (W W' : World) : Prop := (W'.os = W.os ∧ W'.tape = W.tape ∧ W'.output = W.output ∧ W.heap.size ≤ W'.heap.size) ∧ ∀ k, k < B → k ≠ g → W'.heap[k]? = W.heap[k]?
theorem keep_r (B g : Nat) (W : World) : Keep B g W W := ⟨⟨rfl, rfl, rfl, Nat.le_refl _⟩, fun _ _ _ => rfl⟩
theorem keep_t {B g : Nat} {X Y Z : World} (h : Keep B g X Y) (k : Keep B g Y Z) : Keep B g X Z :=
 ⟨⟨k.1.1.trans h.1.1, k.1.2.1.trans h.1.2.1, k.1.2.2.1.trans h.1.2.2.1, Nat.le_trans h.1.2.2.2 k.1.2.2.2⟩, fun i hi hg => (k.2 i hi hg).trans (h.2 i hi hg)⟩
theorem keep_of {B g : Nat} {W W' : World} (h : Below B W W') : Keep B g W W' := ⟨⟨h.os, h.tape, h.output, h.size⟩, fun k hk _ => h.block k hk⟩
theorem keep_set (B g j : Nat) (W : World) (v : Value) : Keep B g W (W.setCell ⟨g, j, none⟩ v) :=
 ⟨⟨rfl, rfl, rfl, by simp [World.setCell]⟩, fun k _ hg => Below.heap_setCell _ _ _ _ hg⟩
theorem Keep.cell {B g : Nat} {W W' : World} (h : Keep B g W W') {p : Addr} (hp : p.block < B) (hg : p.block ≠ g) : W'.cell? p = W.cell? p := World.cell?_of_block (w := W) (h.2 p.block hp hg)
theorem keep_size {B g : Nat} {W W' : World} (h : Keep B g W W') : W.heap.size ≤ W'.heap.size := h.1.2.2.2
end Go.Proofs.YtcngnjkpnmpcpaaDoor
