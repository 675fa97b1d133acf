/- The next point: the program's array, the model's list. -/
import Derived.Test.YtgojojoanhilnabDoorMA
import Derived.IntWalk
namespace Go.Proofs.YtgojojoanhilnabDoor
open Go.ChangeShapes Go.WideShapes Go.ChangeAt Go.RowKit

theorem box_world (w : World) (c : Array Value) (P : List Int) (hc : c = (ints P).toArray) (W : World) (hW : W = w.alloc (.cells c 49)) :
    Arr W w.heap.size P ∧ Below w.heap.size w W ∧ W.heap.size = w.heap.size + 1 := by
  subst hc; subst hW
  exact ⟨heap_alloc_new w _, (Below.refl _ _).alloc (Nat.le_refl _) _, by simp⟩


/-- The steps from x to y. -/
def stepsI (l : List Int) (x y : Int) : Int := ((l.idxOf y : Int) - (l.idxOf x : Int)) % (l.length : Int)

end Go.Proofs.YtgojojoanhilnabDoor
