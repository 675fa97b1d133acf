/- WeaveIn of the model and of the program. -/
import Derived.Test.YtjpbmhlojpaieaaDoorWvT
namespace Go.Proofs.YtjpbmhlojpaieaaDoor
open Go.ChangeShapes Go.WideShapes Go.ChangeAt Go.RowKit

end Go.Proofs.YtjpbmhlojpaieaaDoor
