import Derived.Laws.StructEq
import Derived.Laws.Rows
import Derived.Still
import Derived.Test.YtcngnjkpnmpcpaaDoorLZ
namespace Go.Proofs.YtcngnjkpnmpcpaaDoor
open Go.RowKit
theorem below_alloc (w : World) (o : Obj) : Below w.heap.size w (w.alloc o) := (Below.refl _ w).alloc (Nat.le_refl _) o
end Go.Proofs.YtcngnjkpnmpcpaaDoor
