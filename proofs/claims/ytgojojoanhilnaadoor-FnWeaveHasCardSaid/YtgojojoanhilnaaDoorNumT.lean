/- RingNumber of the model and of the program. -/
import Derived.Test.YtgojojoanhilnaaDoorMA
import Derived.Test.YtgojojoanhilnaaDoorNum
namespace Go.Proofs.YtgojojoanhilnaaDoor
open Go.ChangeShapes Go.WideShapes Go.ChangeAt Go.RowKit

def numR (l : List Int) : Int := if Ring l then numP l l.length else 0

end Go.Proofs.YtgojojoanhilnaaDoor
