/- A slice of slices of ints that came in, as a proof's frame meets it. -/
import Derived.Test.YtdmlhkmahmgdlabDoorFill
import Derived.Deep.Matrix
namespace Go.Proofs.YtdmlhkmahmgdlabDoor
open Go.ChangeShapes Go.WideShapes Go.ChangeAt Go.RowKit Go.Deep

/-- What a proof's frame tells of a slice of slices that came in. -/
def IsRows (w : World) (a : Option Addr) (len cap : Nat) (L : List (List Int)) : Prop := RdS w w.heap.size a len L ∧ len ≤ cap ∧ cap ≤ 9223372036854775807

end Go.Proofs.YtdmlhkmahmgdlabDoor
