/- The functions of chapter 6 over rows at hand. -/
import Derived.Test.YtgojojoanhilnabDoorRw
import Derived.Test.YtgojojoanhilnabDoorWvY1
import Derived.Test.YtgojojoanhilnabDoorBackT
namespace Go.Proofs.YtgojojoanhilnabDoor
open Go.ChangeShapes Go.WideShapes Go.ChangeAt Go.RowKit

theorem Tab.step {w w' : World} (h : Tab w) (hb : Below w.heap.size w w') : Tab w' := h.on hb
end Go.Proofs.YtgojojoanhilnabDoor
