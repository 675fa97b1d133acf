/- The contracts of clashes over slices of rows at hand. -/
import Derived.Test.YthefnanhikjddaaDoorRwS
import Derived.Test.YthefnanhikjddaaDoorCloS
namespace Go.Proofs.YthefnanhikjddaaDoor
open Go.ChangeShapes Go.WideShapes Go.ChangeAt Go.RowKit

section
variable {w : World} {A : Option Addr} {n c : Nat} {L : List (List Int)} (h : RwS w A n c L) (q : Int)
include h
theorem cI_ThreeClash : Calls Tryd.prog 10 #[.int .i64 q, .slice A n c] w fun e w' => e = .returned (.bool (chB q L)) ∧ Below w.heap.size w w' := chI_any A n c w.heap.size q L w h.rd (Nat.le_refl _) h.1.2
theorem cS_ThreeClash : Calls Tryd.prog 12 #[.int .i64 q, .slice A n c] w fun e w' => e = .returned (.bool (chB q L)) ∧ Below w.heap.size w w' := chS_any A n c w.heap.size q L w h.rd (Nat.le_refl _) h.1.2
end
end Go.Proofs.YthefnanhikjddaaDoor
