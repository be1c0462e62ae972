import Derived.Shelf.SlLaysF
import Derived.Shelf.Lay
import Derived.Ground.SlsfProg
import Derived.Test.YtgblkcddhnigaaaDoorNsHZ
namespace Go.Proofs
open Go.Shelf
shelf_lay_g SlLaysF.n6 Slsf 6 at Tryd 43 as YtgblkcddhnigaaaDoor.sortL
end Go.Proofs
