/- RingSteps of the model and of the program. -/
import Derived.Test.YtgojojoanhilnabDoorNext
import Derived.Test.YtgojojoanhilnabDoorHas
namespace Go.Proofs.YtgojojoanhilnabDoor
open Go.ChangeShapes Go.WideShapes Go.ChangeAt Go.RowKit

/-- Two points of a ring. -/
def hasB2 (l : List Int) (x y : Int) : Bool := hasB l x && hasB l y
def stepsR (l : List Int) (x y : Int) : Int := if hasB2 l x y then stepsI l x y else 0

end Go.Proofs.YtgojojoanhilnabDoor
