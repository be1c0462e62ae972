import Derived.Test.YtcngnjkpnmpcpaaDoorRows
import Derived.Test.YtcngnjkpnmpcpaaDoorIVZ
import Derived.Test.YtcngnjkpnmpcpaaDoorRXZ
namespace Go.Proofs.YtcngnjkpnmpcpaaDoor
open Go.RowKit Go.Shelf
attribute [local go_sem] Oper.semAt_some run_store_func
theorem cell_one_new (w : World) (t : TypeId) (x : Value) : ∀ j u, [x][j]? = some u → (w.alloc (.cells #[x] t)).cell? ((⟨w.heap.size, 0, none⟩ : Addr).add j) = some u := by
 intro j u hu
 have hj : j = 0 := by
  have := (List.getElem?_eq_some_iff.1 hu).1
  simpa using this
 subst hj
 simp at hu
 subst hu
 simp [Addr.add]
end Go.Proofs.YtcngnjkpnmpcpaaDoor
