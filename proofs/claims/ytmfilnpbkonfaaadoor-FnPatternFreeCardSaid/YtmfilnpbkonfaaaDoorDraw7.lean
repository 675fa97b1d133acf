/- The laws' drawers of a ring and a point. -/
import Derived.Test.YtmfilnpbkonfaaaDoorDraw6
import Derived.OwnWalk
namespace Go.Proofs.YtmfilnpbkonfaaaDoor
open Go.ChangeShapes Go.WideShapes Go.ChangeAt Go.RowKit

end Go.Proofs.YtmfilnpbkonfaaaDoor
