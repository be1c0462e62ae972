import Derived.Shelf.Strconv.Itoa0
import Derived.Shelf.Lay
import Derived.Shelf.LaySoft
import Derived.Test.YtjclfkbhakjdaaaDoorRows
namespace Go.Proofs
open Go.Shelf
shelf_lay Lays.n129 Nm 129 at Tryd as YtjclfkbhakjdaaaDoor.lays129
end Go.Proofs
