/- slices.Sorted(maps.Keys(..)) of ints: the library's contracts laid at this program. (Seat s27.) -/
import Derived.Test.YtfkjheilcbppcaaCoG
import Derived.Shelf.SlIterI.Nil
import Derived.Shelf.SortM.Plain
import Derived.Shelf.SortM.SortNone
import Derived.Ground.GgzProg
import Derived.Ground.SlgmProg
namespace Go.Proofs
open Go.Shelf
shelf_lay_g SlLaysZI.n7 Ggz 7 at Try 28 as Ytfkjheilcbppcaa.keysI
shelf_lay_g SlLaysZI.n6 Ggz 6 at Try 27 as Ytfkjheilcbppcaa.sortedI
shelf_lay_g SlLaysM.n5 Slgm 5 at Try 32 as Ytfkjheilcbppcaa.sortI
end Go.Proofs
