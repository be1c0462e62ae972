import Derived.Stop.RegionWithIn
import Derived.Sort.QuietTacIn
import Derived.Sort.BigQuietIn
import Derived.RecoverIn
import Derived.Laws.Rows
import Derived.Laws.Tables
import Derived.Test.YtgblkcddhnigaaaDoorRIZ
namespace Go.Proofs.YtgblkcddhnigaaaDoor
open Go.RowKit
set_option maxRecDepth 100000 in
theorem keep_put {B g : Nat} {w : World} (hn : B ≤ w.heap.size) (W : World) (l : Nat) (o o' : Obj) (hl : w.heap.size ≤ l) (_ : W.heap[l]? = some o) (_ : o.isCells = false) : Keep B g W (W.putObj l o') :=
 ⟨⟨rfl, rfl, rfl, by simp [World.putObj]⟩, fun k hk _ => World.putObj_heap_other (by omega)⟩
theorem roundIn_room {F : Fence} (hd : F.depth = none) {P : Program} {m n l : Nat} {f : FuncId} {tmps : Array Value} {assign body : Code} {w : World} {R : Ending → World → Prop} (h : RoundIn F n P l f tmps assign body w R) : RoundIn F m P l f tmps assign body w R :=
 ⟨h.1, fun c cs _ => h.2 c cs (fun d hd' => by rw [hd] at hd'; cases hd')⟩
theorem appended_low {W w1 : World} {base b : Nat} {t e : TypeId} {v v' : Value} {k m : Nat} {xs ys : List Value} {tmp : Obj} (hv : Boxed W b t v) (hte : t ≠ e) (hrow : W.ownsRow base e 1 v k xs) (hbase : base ≤ W.heap.size) (hown' : w1.ownsRow base e 1 v' m ys)
    (hgrow : (W.alloc tmp).grownBy w1 v.ownBlock) : Boxed w1 b t v ∧ Boxed (w1.setCell ⟨b, 0, none⟩ v') b t v' ∧ (w1.setCell ⟨b, 0, none⟩ v').ownsRow base e 1 v' m ys ∧ KeepsOthers W (w1.setCell ⟨b, 0, none⟩ v') ∧ Keep base b W (w1.setCell ⟨b, 0, none⟩ v') := by
 have hv1 : Boxed w1 b t v := (hv.alloc tmp).kept hgrow (hv.not_row hte hrow)
 refine ⟨hv1, hv1.set v', hown'.kept (grownBy_setCell' w1 b v') (.inr (hv1.not_row hte hown').symm), ?_, ?_⟩
 · refine ((KeepsOthers.alloc W tmp).trans (KeepsOthers.of_grownBy hgrow fun j o ej hj => ?_)).trans (KeepsOthers.setCell _ _ _)
   rcases (hrow.alloc tmp).2 with ⟨rfl, _⟩ | ⟨g, cap, cur, rfl, _, hgb, _⟩
   · simp [Value.ownBlock] at ej
   · obtain rfl : g = j := by simpa [Value.ownBlock] using ej
     rw [hgb] at hj; cases hj; rfl
 · refine keep_t (keep_of (((Below.refl base W).alloc hbase tmp).grown hgrow (by simp; omega) fun j ej => ?_)) (keep_set _ _ _ _ _)
   rcases hrow.2 with ⟨rfl, _⟩ | ⟨g, cap, cur, rfl, hb, _, _⟩
   · simp [Value.ownBlock] at ej
   · obtain rfl : g = j := by simpa [Value.ownBlock] using ej
     exact hb
end Go.Proofs.YtgblkcddhnigaaaDoor
