/- RingCut of the model and of the program. -/
import Derived.Test.YtgojojoanhilnabDoorHas
import Derived.Test.YtgojojoanhilnabDoorMA
namespace Go.Proofs.YtgojojoanhilnabDoor
open Go.ChangeShapes Go.WideShapes Go.ChangeAt Go.RowKit

def cutR (l : List Int) (x : Int) : List Int := if hasB l x then cutL l x else []
theorem cutR_length (l : List Int) (x : Int) : (cutR l x).length ≤ 7 := by
  unfold cutR
  split
  · rename_i h; rw [cutL_length]; exact (hasB_yes h).1.1.2.1
  · simp
theorem cutL_pos (l : List Int) (x : Int) (h : Tell l) : ∀ y ∈ cutL l x, 0 ≤ y := fun y hy => by
  obtain ⟨i, _, rfl⟩ := List.mem_map.1 hy
  exact h.pos _ (getD_mem l _ (Nat.mod_lt _ (by have := h.1; omega)))

end Go.Proofs.YtgojojoanhilnabDoor
