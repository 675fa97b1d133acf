/- The tables stay. -/
import Derived.Test.YthefnanhikjddaaDoorTabZ
namespace Go.Proofs.YthefnanhikjddaaDoor
open Go.ChangeShapes Go.WideShapes Go.ChangeAt Go.RowKit

theorem Tab.step {w w' : World} (h : Tab w) (hb : Below w.heap.size w w') : Tab w' := h.on hb
end Go.Proofs.YthefnanhikjddaaDoor
