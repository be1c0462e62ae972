import Derived.Stop.RegionWithIn
import Derived.Sort.QuietTacIn
import Derived.Sort.BigQuietIn
import Derived.RecoverIn
import Derived.Laws.Rows
import Derived.Laws.Tables
import Derived.Test.YtcngnjkpnmpcpaaDoorRXJZ
namespace Go.Proofs.YtcngnjkpnmpcpaaDoor
open Go.RowKit
theorem keepsFrom_below {B : Nat} {W W' : World} (h : Below W.heap.size W W') : KeepsFrom B W W' :=
 ⟨h.size, fun k _ _ hk _ => (h.block k (Array.getElem?_eq_some_iff.1 hk).1).trans hk⟩
theorem Keep.boxed {B g b : Nat} {W W' : World} {t : TypeId} {v : Value} (h : Keep B g W W') (hb : Boxed W b t v) (h1 : b < B) (h2 : b ≠ g) : Boxed W' b t v := (h.2 b h1 h2).trans hb
set_option maxRecDepth 100000 in
theorem keep_put {B g : Nat} {w : World} (hn : B ≤ w.heap.size) (W : World) (l : Nat) (o o' : Obj) (hl : w.heap.size ≤ l) (_ : W.heap[l]? = some o) (_ : o.isCells = false) : Keep B g W (W.putObj l o') :=
 ⟨⟨rfl, rfl, rfl, by simp [World.putObj]⟩, fun k hk _ => World.putObj_heap_other (by omega)⟩
theorem roundIn_room {F : Fence} (hd : F.depth = none) {P : Program} {m n l : Nat} {f : FuncId} {tmps : Array Value} {assign body : Code} {w : World} {R : Ending → World → Prop} (h : RoundIn F n P l f tmps assign body w R) : RoundIn F m P l f tmps assign body w R :=
 ⟨h.1, fun c cs _ => h.2 c cs (fun d hd' => by rw [hd] at hd'; cases hd')⟩
end Go.Proofs.YtcngnjkpnmpcpaaDoor
