/- ProofClash of the program, as the tied law asks. -/
import Derived.Test.YthefnanhikjddaaDoorClS
import Derived.Test.YthefnanhikjddaaDoorTabZ
namespace Go.Proofs.YthefnanhikjddaaDoor
open Go.ChangeShapes Go.WideShapes Go.ChangeAt Go.RowKit

theorem ctI_law (A : Option Addr) (n c H : Nat) (q : Int) (L : List (List Int)) (w : World) (h : RdS w H A n L) (hH : H ≤ w.heap.size) (hn : tot L ≤ 1048576) (_ : Tab w) :
    Calls Tryd.prog 7 #[.int .i64 q, .slice A n c] w fun e w' => e = .returned (.tuple #[.string (ctT q L), .bool (ctF q L).isSome]) ∧ Below w.heap.size w w' := ctI_any A n c H q L w h hH hn
end Go.Proofs.YthefnanhikjddaaDoor
