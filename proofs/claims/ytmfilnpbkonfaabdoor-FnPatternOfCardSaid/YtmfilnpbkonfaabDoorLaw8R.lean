/- The functions of chapter 8 over rows at hand. -/
import Derived.Test.YtmfilnpbkonfaabDoorMA
namespace Go.Proofs.YtmfilnpbkonfaabDoor
open Go.ChangeShapes Go.WideShapes Go.ChangeAt Go.RowKit

theorem c8I_RingIn {w : World} {A : Option Addr} {n c : Nat} {l : List Int} (h : Rw w A n c l) : Calls Tryd.prog 18 #[.slice A n c] w fun e w' => e = .returned (.bool (ringB l)) ∧ Below w.heap.size w w' :=
  ringI_any A n c w.heap.size l w h.rd (Nat.le_refl _) h.big h.2.1 h.2.2.1
end Go.Proofs.YtmfilnpbkonfaabDoor
