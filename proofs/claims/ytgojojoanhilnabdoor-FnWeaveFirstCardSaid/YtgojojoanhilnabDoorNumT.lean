/- RingNumber of the model and of the program. -/
import Derived.Test.YtgojojoanhilnabDoorMA
import Derived.Test.YtgojojoanhilnabDoorNum
namespace Go.Proofs.YtgojojoanhilnabDoor
open Go.ChangeShapes Go.WideShapes Go.ChangeAt Go.RowKit

def numR (l : List Int) : Int := if Ring l then numP l l.length else 0

end Go.Proofs.YtgojojoanhilnabDoor
