/- The contracts of checked proofs of clashes over slices of rows at hand. -/
import Derived.Test.YthefnanhikjddaaDoorRwS
import Derived.Test.YthefnanhikjddaaDoorPdJ
namespace Go.Proofs.YthefnanhikjddaaDoor
open Go.ChangeShapes Go.WideShapes Go.ChangeAt Go.RowKit

section
variable {w : World} {A : Option Addr} {n c : Nat} {L : List (List Int)} (h : RwS w A n c L) (q : Int) (s : ByteArray)
include h
theorem cI_ProofClashIs (hs : s.size ≤ 1048576) : Calls Tryd.prog 9 #[.int .i64 q, .slice A n c, .string s] w fun e w' => e = .returned (.bool (pcB q L s)) ∧ Below w.heap.size w w' := pcI_any A n c w.heap.size q L s w h.rd (Nat.le_refl _) h.1.2 hs
end
section
variable {w : World} {A : Option Addr} {n c : Nat} {L : List (List Int)} (h : RwS w A n c L) (q : Int)
include h
end
end Go.Proofs.YthefnanhikjddaaDoor
