/- WeaveIn of the model and of the program. -/
import Derived.Test.YtphffefkjbgibabDoorWvT
namespace Go.Proofs.YtphffefkjbgibabDoor
open Go.ChangeShapes Go.WideShapes Go.ChangeAt Go.RowKit

end Go.Proofs.YtphffefkjbgibabDoor
