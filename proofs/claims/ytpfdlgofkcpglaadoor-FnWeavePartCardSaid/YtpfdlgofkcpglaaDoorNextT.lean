/- RingNext and RingSteps of the model and of the program. -/
import Derived.Test.YtpfdlgofkcpglaaDoorNext
import Derived.Test.YtpfdlgofkcpglaaDoorHas
namespace Go.Proofs.YtpfdlgofkcpglaaDoor
open Go.ChangeShapes Go.WideShapes Go.ChangeAt Go.RowKit

def nextR (l : List Int) (x : Int) : Int := if hasB l x then l.getD ((l.idxOf x + 1) % l.length) 0 else 0

end Go.Proofs.YtpfdlgofkcpglaaDoor
