/- The laws' drawers of a parting, and of a scheme: some number, some lists of four. -/
import Derived.Test.YtamnacgclhaggabDraw35
import Derived.Test.YtamnacgclhaggabPE
import Derived.Test.YtamnacgclhaggabDR
import Derived.Test.YtamnacgclhaggabPart
import Derived.Test.YtamnacgclhaggabPqM
import Derived.Test.YtamnacgclhaggabRwS
namespace Go.Proofs.Ytamnacgclhaggab
open Go.ChangeShapes Go.WideShapes Go.ChangeAt Go.RowKit

end Go.Proofs.Ytamnacgclhaggab
