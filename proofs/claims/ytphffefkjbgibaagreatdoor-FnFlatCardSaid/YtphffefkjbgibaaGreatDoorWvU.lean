/- The model's set of a list's points. -/
import Derived.Test.YtphffefkjbgibaaGreatDoorWvI
namespace Go.Proofs.YtphffefkjbgibaaGreatDoor
open Go.ChangeShapes Go.WideShapes Go.ChangeAt Go.RowKit

end Go.Proofs.YtphffefkjbgibaaGreatDoor
