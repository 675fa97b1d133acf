/- TermRing: the program's and the model's. -/
import Derived.Test.YtphffefkjbgibaaGreatDoorTn1
import Derived.Test.YtphffefkjbgibaaGreatDoorMA
namespace Go.Proofs.YtphffefkjbgibaaGreatDoor
open Go.ChangeShapes Go.WideShapes Go.ChangeAt Go.RowKit

theorem Hand.turn {w w' : World} {B C : Nat} (h : Hand w) (ht : Turn B C w w') (hB : 0 + 1 ≤ B) : Hand w' := h.below (below_turn (Below.refl (0 + 1) w) ht hB h.1) (Nat.lt_succ_self _)
/-- The ring that a text tells, and whether there is one. -/
def tringR (l : List UInt8) : List Int := match ringT l with | none => [] | some t => cutL (ptsU t.row) 0
def tringB (l : List UInt8) : Bool := (ringT l).isSome
theorem tringR_length (l : List UInt8) : (tringR l).length ≤ 7 := by
  unfold tringR
  rcases h : ringT l with _ | t
  · simp
  · have := (ringT_ok h).2.2.1; simpa using this

end Go.Proofs.YtphffefkjbgibaaGreatDoor
