/- The library's contract of slices.Delete at []int, laid at this seat's numbers. -/
import Derived.Ground.Names2Prog
import Derived.Shelf.Slices.Delete
import Derived.Shelf.Slices.Cells
import Derived.Shelf.Slices.Empties
import Derived.Test.YthefnanhikjddaaDoorProg
namespace Go.Proofs
open Go.Shelf
open Go.RowKit Go.Lib Go.Sort
end Go.Proofs
