/- TermRow: the program's and the model's. -/
import Derived.Test.YtehadbpbkenccaaGreatDoorTmZ
namespace Go.Proofs.YtehadbpbkenccaaGreatDoor
open Go.ChangeShapes Go.WideShapes Go.ChangeAt Go.RowKit

/-- A string and whether there is one. -/
def StrQ (l : List UInt8) (ok : Bool) (w : World) (e : Ending) (w' : World) : Prop := e = .returned (.tuple #[.string (bs l), .bool ok]) ∧ Below w.heap.size w w'
theorem bs_nil : (⟨#[]⟩ : ByteArray) = bs [] := rfl

end Go.Proofs.YtehadbpbkenccaaGreatDoor
