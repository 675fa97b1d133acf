/- WeaveIn of the model and of the program. -/
import Derived.Test.YthfbllgfcidhkabDoorWvT
namespace Go.Proofs.YthfbllgfcidhkabDoor
open Go.ChangeShapes Go.WideShapes Go.ChangeAt Go.RowKit

end Go.Proofs.YthfbllgfcidhkabDoor
