/- RingOf: the model and the program make the same ring of a list. -/
import Derived.Test.YtgojojoanhilnabDoorMA
namespace Go.Proofs.YtgojojoanhilnabDoor
open Go.ChangeShapes Go.WideShapes Go.ChangeAt Go.RowKit

def ofR (l : List Int) : List Int := if Tell l then cutL l 0 else []
theorem ofR_length (l : List Int) : (ofR l).length ≤ 7 := by
  unfold ofR
  split
  · rename_i h; rw [cutL_length]; exact h.2.1
  · simp

theorem readP_length (l : List Int) : (readP l).length = 7 := by
  unfold readP
  split
  · rename_i h; exact padR_length l h.2.1
  · rfl

end Go.Proofs.YtgojojoanhilnabDoor
