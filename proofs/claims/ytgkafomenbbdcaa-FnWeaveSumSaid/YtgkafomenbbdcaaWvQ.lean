/- Comparing two lists: slices.Equal of the program's parts, and the model's own. -/
import Derived.Test.YtgkafomenbbdcaaWvR
namespace Go.Proofs.Ytgkafomenbbdcaa
open Go.ChangeShapes Go.WideShapes Go.ChangeAt Go.RowKit

end Go.Proofs.Ytgkafomenbbdcaa
