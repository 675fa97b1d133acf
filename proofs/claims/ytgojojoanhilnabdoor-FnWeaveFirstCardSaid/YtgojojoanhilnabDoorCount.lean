/- The law on the number of rings: spec and program give the factorial of n - 1 for n from 3 to 7, and nothing else. -/
import Derived.Test.YtgojojoanhilnabDoorMA
namespace Go.Proofs.YtgojojoanhilnabDoor
open Go.ChangeShapes Go.WideShapes Go.ChangeAt Go.RowKit

def rcount (n : Int) : Int := if 3 ≤ n ∧ n ≤ 7 then facN (n.toNat - 1) else 0

end Go.Proofs.YtgojojoanhilnabDoor
