import Derived.Laws.Rows
import Derived.Deep.WholeRow
import Derived.Test.YtcngnjkpnmpcpaaDoorLZ
namespace Go.Proofs.YtcngnjkpnmpcpaaDoor
open Go.RowKit
theorem run_store_func (P : Program) (w : World) (a : Addr) (m : Mode) (fn : Fn) (first cap : Array Value) : (store a (.func fn first cap) m).run P w = stored P w a (.func fn first cap) m := run_store P w a _ m rfl
def Rowed (W : World) (g : Nat) (t : TypeId) (cs : Array Value) : Prop := W.heap[g]? = some (.cells cs t (0, 0))
theorem Rowed.lt {W : World} {g : Nat} {t : TypeId} {cs : Array Value} (h : Rowed W g t cs) : g < W.heap.size := (Array.getElem?_eq_some_iff.1 h).1
theorem Rowed.cell {W : World} {g : Nat} {t : TypeId} {cs : Array Value} (h : Rowed W g t cs) (j : Nat) : W.cell? ⟨g, j, none⟩ = cs[j]? := by simp [World.cell?, show W.heap[g]? = _ from h]
theorem Rowed.frozen {W : World} {g : Nat} {t : TypeId} {cs : Array Value} (h : Rowed W g t cs) (j : Nat) : W.frozen? ⟨g, j, none⟩ = false := by simp [World.frozen?, show W.heap[g]? = _ from h]
theorem Rowed.set {W : World} {g : Nat} {t : TypeId} {cs : Array Value} (j : Nat) (v : Value) (h : Rowed W g t cs) : Rowed (W.setCell ⟨g, j, none⟩ v) g t (cs.setIfInBounds j v) := by
 obtain ⟨hlt, hk⟩ := Array.getElem?_eq_some_iff.1 h
 show (W.heap.modify g _)[g]? = _
 rw [Array.getElem?_eq_getElem (by rw [Array.size_modify]; exact hlt), Array.getElem_modify_self, hk]
 rfl
theorem Rowed.new (w : World) (t : TypeId) (cs : Array Value) : Rowed (w.alloc (.cells cs t)) w.heap.size t cs := World.alloc_heap_new w _
theorem Rowed.below {B g : Nat} {W W' : World} {t : TypeId} {cs : Array Value} (h : Rowed W g t cs) (hb : Below B W W') (hg : g < B) : Rowed W' g t cs := (hb.block g hg).trans h
theorem Rowed.other {W : World} {g : Nat} {t : TypeId} {cs : Array Value} (h : Rowed W g t cs) (b j : Nat) (v : Value) (hne : g ≠ b) : Rowed (W.setCell ⟨b, j, none⟩ v) g t cs :=
 (Below.heap_setCell W ⟨b, j, none⟩ v g hne).trans h
end Go.Proofs.YtcngnjkpnmpcpaaDoor
