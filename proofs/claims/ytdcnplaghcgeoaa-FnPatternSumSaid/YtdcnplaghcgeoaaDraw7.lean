/- The laws' drawers of a ring and a point. -/
import Derived.Test.YtdcnplaghcgeoaaDraw6
import Derived.OwnWalk
namespace Go.Proofs.Ytdcnplaghcgeoaa
open Go.ChangeShapes Go.WideShapes Go.ChangeAt Go.RowKit

end Go.Proofs.Ytdcnplaghcgeoaa
