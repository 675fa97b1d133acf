/- Two points part two other ones: the model's look, the program's look. -/
import Derived.Test.YtheoepbcejlncaaHas3
import Derived.Test.YtheoepbcejlncaaPar
import Derived.Test.YtheoepbcejlncaaFour
namespace Go.Proofs.Ytheoepbcejlncaa
open Go.ChangeShapes Go.WideShapes Go.ChangeAt Go.RowKit

def partB (l t : List Int) : Bool := has3 l [t.getD 0 0, t.getD 2 0, t.getD 1 0] != has3 l [t.getD 0 0, t.getD 3 0, t.getD 1 0]

end Go.Proofs.Ytheoepbcejlncaa
