/- The model's set of a list's points. -/
import Derived.Test.YtkahnepkafjkpaaDoorWvI
namespace Go.Proofs.YtkahnepkafjkpaaDoor
open Go.ChangeShapes Go.WideShapes Go.ChangeAt Go.RowKit

end Go.Proofs.YtkahnepkafjkpaaDoor
