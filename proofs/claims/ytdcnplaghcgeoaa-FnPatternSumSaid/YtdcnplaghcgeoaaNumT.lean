/- RingNumber of the model and of the program. -/
import Derived.Test.YtdcnplaghcgeoaaIn
import Derived.Test.YtdcnplaghcgeoaaNum
namespace Go.Proofs.Ytdcnplaghcgeoaa
open Go.ChangeShapes Go.WideShapes Go.ChangeAt Go.RowKit

def numR (l : List Int) : Int := if Ring l then numP l l.length else 0

end Go.Proofs.Ytdcnplaghcgeoaa
