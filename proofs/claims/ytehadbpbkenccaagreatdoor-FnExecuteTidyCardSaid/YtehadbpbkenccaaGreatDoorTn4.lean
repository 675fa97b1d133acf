/- TermDeep: the program's and the model's. -/
import Derived.Test.YtehadbpbkenccaaGreatDoorTn3
namespace Go.Proofs.YtehadbpbkenccaaGreatDoor
open Go.ChangeShapes Go.WideShapes Go.ChangeAt Go.RowKit

def IntQ (d : Nat) (ok : Bool) (w : World) (e : Ending) (w' : World) : Prop := e = .returned (.tuple #[.int .i64 (d : Int), .bool ok]) ∧ Below w.heap.size w w'
end Go.Proofs.YtehadbpbkenccaaGreatDoor
