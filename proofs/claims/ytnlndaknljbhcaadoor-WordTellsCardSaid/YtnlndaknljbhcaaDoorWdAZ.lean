/- Stage 16: the contracts of bits and of sums side by side. -/
import Derived.Test.YtnlndaknljbhcaaDoorBuDZ
import Derived.Test.YtnlndaknljbhcaaDoorRdEZ
import Derived.Test.YtnlndaknljbhcaaDoorSuNZ
import Derived.Test.YtnlndaknljbhcaaDoorWdMZ
namespace Go.Proofs.YtnlndaknljbhcaaDoor
end Go.Proofs.YtnlndaknljbhcaaDoor
