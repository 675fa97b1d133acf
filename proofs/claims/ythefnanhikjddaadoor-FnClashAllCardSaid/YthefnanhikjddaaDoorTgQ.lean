/- Clashes and their proofs are told together. -/
import Derived.Test.YthefnanhikjddaaDoorLawPC
import Derived.Test.YthefnanhikjddaaDoorCloI
namespace Go.Proofs.YthefnanhikjddaaDoor
open Go.ChangeShapes Go.WideShapes Go.ChangeAt Go.RowKit

theorem ch_ct (q : Int) (L : List (List Int)) : chB q L = (ctF q L).isSome := by
  unfold chB ctF
  split
  · unfold clashB cloL
    rw [any_find]
  · rfl
end Go.Proofs.YthefnanhikjddaaDoor
