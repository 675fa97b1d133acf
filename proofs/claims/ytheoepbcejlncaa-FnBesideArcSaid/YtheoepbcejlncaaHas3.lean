/- A ring has a three: the model's look, the program's look. -/
import Derived.Test.YtheoepbcejlncaaReadT
import Derived.Test.YtheoepbcejlncaaStepsT
import Derived.Deep.RegionHeld3
namespace Go.Proofs.Ytheoepbcejlncaa
open Go.ChangeShapes Go.WideShapes Go.ChangeAt Go.RowKit

def has3 (l t : List Int) : Bool := decide (stepsI l (t.getD 0 0) (t.getD 1 0) < stepsI l (t.getD 0 0) (t.getD 2 0))

end Go.Proofs.Ytheoepbcejlncaa
