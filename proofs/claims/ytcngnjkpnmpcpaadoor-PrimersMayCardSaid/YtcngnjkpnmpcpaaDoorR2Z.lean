import Derived.Laws.Rows
import Derived.Deep.WholeRow
import Derived.Test.YtcngnjkpnmpcpaaDoorLZ
namespace Go.Proofs.YtcngnjkpnmpcpaaDoor
open Go.RowKit
theorem run_store_func (P : Program) (w : World) (a : Addr) (m : Mode) (fn : Fn) (first cap : Array Value) : (store a (.func fn first cap) m).run P w = stored P w a (.func fn first cap) m := run_store P w a _ m rfl
def Rowed (W : World) (g : Nat) (t : TypeId) (cs : Array Value) : Prop := W.heap[g]? = some (.cells cs t (0, 0))
theorem Rowed.lt {W : World} {g : Nat} {t : TypeId} {cs : Array Value} (h : Rowed W g t cs) : g < W.heap.size := (Array.getElem?_eq_some_iff.1 h).1
theorem Rowed.cell {W : World} {g : Nat} {t : TypeId} {cs : Array Value} (h : Rowed W g t cs) (j : Nat) : W.cell? ⟨g, j, none⟩ = cs[j]? := by simp [World.cell?, show W.heap[g]? = _ from h]
theorem Rowed.frozen {W : World} {g : Nat} {t : TypeId} {cs : Array Value} (h : Rowed W g t cs) (j : Nat) : W.frozen? ⟨g, j, none⟩ = false := by simp [World.frozen?, show W.heap[g]? = _ from h]
theorem Rowed.set {W : World} {g : Nat} {t : TypeId} {cs : Array Value} (j : Nat) (v : Value) (h : Rowed W g t cs) : Rowed (W.setCell ⟨g, j, none⟩ v) g t (cs.setIfInBounds j v) := by
 obtain ⟨hlt, hk⟩ := Array.getElem?_eq_some_iff.1 h
 show (W.heap.modify g _)[g]? = _
 rw [Array.getElem?_eq_getElem (by rw [Array.size_modify]; exact hlt), Array.getElem_modify_self, hk]
 rfl
theorem Rowed.new (w : World) (t : TypeId) (cs : Array Value) : Rowed (w.alloc (.cells cs t)) w.heap.size t cs := World.alloc_heap_new w _
theorem Rowed.below {B g : Nat} {W W' : World} {t : TypeId} {cs : Array Value} (h : Rowed W g t cs) (hb : Below B W W') (hg : g < B) : Rowed W' g t cs := (hb.block g hg).trans h
theorem Rowed.alloc {W : World} {g : Nat} {t : TypeId} {cs : Array Value} (h : Rowed W g t cs) (o : Obj) : Rowed (W.alloc o) g t cs :=
 (Below.heap_alloc _ _ _ h.lt).trans h
theorem Rowed.other {W : World} {g : Nat} {t : TypeId} {cs : Array Value} (h : Rowed W g t cs) (b j : Nat) (v : Value) (hne : g ≠ b) : Rowed (W.setCell ⟨b, j, none⟩ v) g t cs :=
 (Below.heap_setCell W ⟨b, j, none⟩ v g hne).trans h
end Go.Proofs.YtcngnjkpnmpcpaaDoor
namespace Go.Proofs.YtcngnjkpnmpcpaaDoor
open Go.RowKit
def Keep (B g : Nat) (W W' : World) : Prop := (W'.os = W.os ∧ W'.tape = W.tape ∧ W'.output = W.output ∧ W.heap.size ≤ W'.heap.size) ∧ ∀ k, k < B → k ≠ g → W'.heap[k]? = W.heap[k]?
theorem keep_r (B g : Nat) (W : World) : Keep B g W W := ⟨⟨rfl, rfl, rfl, Nat.le_refl _⟩, fun _ _ _ => rfl⟩
theorem keep_t {B g : Nat} {X Y Z : World} (h : Keep B g X Y) (k : Keep B g Y Z) : Keep B g X Z :=
 ⟨⟨k.1.1.trans h.1.1, k.1.2.1.trans h.1.2.1, k.1.2.2.1.trans h.1.2.2.1, Nat.le_trans h.1.2.2.2 k.1.2.2.2⟩, fun i hi hg => (k.2 i hi hg).trans (h.2 i hi hg)⟩
theorem keep_of {B g : Nat} {W W' : World} (h : Below B W W') : Keep B g W W' := ⟨⟨h.os, h.tape, h.output, h.size⟩, fun k hk _ => h.block k hk⟩
theorem keep_set (B g j : Nat) (W : World) (v : Value) : Keep B g W (W.setCell ⟨g, j, none⟩ v) :=
 ⟨⟨rfl, rfl, rfl, by simp [World.setCell]⟩, fun k _ hg => Below.heap_setCell _ _ _ _ hg⟩
theorem Keep.cell {B g : Nat} {W W' : World} (h : Keep B g W W') {p : Addr} (hp : p.block < B) (hg : p.block ≠ g) : W'.cell? p = W.cell? p := World.cell?_of_block (w := W) (h.2 p.block hp hg)
theorem keep_size {B g : Nat} {W W' : World} (h : Keep B g W W') : W.heap.size ≤ W'.heap.size := h.1.2.2.2
end Go.Proofs.YtcngnjkpnmpcpaaDoor
