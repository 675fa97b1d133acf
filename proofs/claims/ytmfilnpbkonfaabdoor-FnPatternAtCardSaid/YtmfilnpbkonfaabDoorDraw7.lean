/- The laws' drawers of a ring and a point. -/
import Derived.Test.YtmfilnpbkonfaabDoorDraw6
import Derived.OwnWalk
namespace Go.Proofs.YtmfilnpbkonfaabDoor
open Go.ChangeShapes Go.WideShapes Go.ChangeAt Go.RowKit

end Go.Proofs.YtmfilnpbkonfaabDoor
