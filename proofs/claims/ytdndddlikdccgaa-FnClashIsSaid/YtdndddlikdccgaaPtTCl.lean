/- A proof's text, told once its own check has passed. -/
import Derived.Test.YtdndddlikdccgaaPdPCl
import Derived.Test.YtdndddlikdccgaaPtW
namespace Go.Proofs.Ytdndddlikdccgaa
open Go.ChangeShapes Go.WideShapes Go.ChangeAt Go.RowKit

end Go.Proofs.Ytdndddlikdccgaa
