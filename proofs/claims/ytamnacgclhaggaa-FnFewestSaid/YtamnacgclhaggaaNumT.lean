/- RingNumber of the model and of the program. -/
import Derived.Test.YtamnacgclhaggaaMA
import Derived.Test.YtamnacgclhaggaaPR
namespace Go.Proofs.Ytamnacgclhaggaa
open Go.ChangeShapes Go.WideShapes Go.ChangeAt Go.RowKit

def numR (l : List Int) : Int := if Ring l then numP l l.length else 0

end Go.Proofs.Ytamnacgclhaggaa
