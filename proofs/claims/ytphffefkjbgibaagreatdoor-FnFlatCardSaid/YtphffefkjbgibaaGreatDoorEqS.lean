/- The model's comparing of two lists. -/
import Derived.Test.YtphffefkjbgibaaGreatDoorMA
namespace Go.Proofs.YtphffefkjbgibaaGreatDoor
open Go.ChangeShapes Go.WideShapes Go.ChangeAt Go.RowKit

end Go.Proofs.YtphffefkjbgibaaGreatDoor
