/- WeaveIn of the model and of the program. -/
import Derived.Test.YtkahnepkafjkpaaDoorWvT
namespace Go.Proofs.YtkahnepkafjkpaaDoor
open Go.ChangeShapes Go.WideShapes Go.ChangeAt Go.RowKit

end Go.Proofs.YtkahnepkafjkpaaDoor
