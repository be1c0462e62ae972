import Derived.Laws.Externs
import Derived.Test.YtcngnjkpnmpcpaaDoorNsDZ
namespace Go.Proofs.YtcngnjkpnmpcpaaDoor
open Go.RowKit Go.Shelf
attribute [local go_sem] Oper.semAt_some
def rcOf (bs : List UInt8) : List UInt8 := (codesOf bs).reverse.map fun n => letterOf (3 - n)
end Go.Proofs.YtcngnjkpnmpcpaaDoor
