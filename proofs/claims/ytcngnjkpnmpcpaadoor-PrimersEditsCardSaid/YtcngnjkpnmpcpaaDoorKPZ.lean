import Derived.Deep.SlicePairs
import Derived.Test.YtcngnjkpnmpcpaaDoorKZ
import Derived.Test.YtcngnjkpnmpcpaaDoorPaCZ
namespace Go.Proofs.YtcngnjkpnmpcpaaDoor
open Go.ChangeShapes Go.WideShapes Go.ChangeAt Go.RowKit Go.Shelf
theorem str_list (s : ByteArray) : ∃ l : List UInt8, s = ⟨l.toArray⟩ := ⟨s.data.toList, by cases s; rfl⟩
end Go.Proofs.YtcngnjkpnmpcpaaDoor
