/- The functions of chapter 8 over rows at hand. -/
import Derived.Test.YtmfilnpbkonfaabDoorMA
import Derived.Test.YtmfilnpbkonfaabDoorBy
import Derived.Test.YtmfilnpbkonfaabDoorPR
namespace Go.Proofs.YtmfilnpbkonfaabDoor
open Go.ChangeShapes Go.WideShapes Go.ChangeAt Go.RowKit

theorem c8I_RingBack {w : World} {A : Option Addr} {n c : Nat} {l : List Int} (h : Rw w A n c l) : Calls Tryd.prog 22 #[.slice A n c] w fun e w' => ∃ v, e = .returned (.tuple #[v, .bool (ringB l)]) ∧ NewR w' v (backR l) ∧ Below w.heap.size w w' :=
  (bkI_any A n c w.heap.size l w h.rd (Nat.le_refl _) h.big h.2.1 h.2.2.1).mono fun _ _ ⟨v, e1, ho, hb⟩ => ⟨v, e1, ho.newR (backR_length l), hb⟩
theorem c8I_RingNumber {w : World} {A : Option Addr} {n c : Nat} {l : List Int} (h : Rw w A n c l) : Calls Tryd.prog 24 #[.slice A n c] w fun e w' => e = .returned (.tuple #[.int .i64 (numR l), .bool (ringB l)]) ∧ Below w.heap.size w w' :=
  nuI_any A n c w.heap.size l w h.rd (Nat.le_refl _) h.big h.2.1 h.2.2.1
theorem c8I_RingBy (x : Int) (y : Int) (w : World) : Calls Tryd.prog 23 #[.int .i64 x, .int .i64 y] w fun e w' => ∃ v, e = .returned (.tuple #[v, .bool (byB x y)]) ∧ NewR w' v (byR x y) ∧ Below w.heap.size w w' :=
  (byIm_any x y w).mono fun _ _ ⟨v, e1, ho, hb⟩ => ⟨v, e1, ho.newR (byR_length x y), hb⟩
end Go.Proofs.YtmfilnpbkonfaabDoor
