/- Any of the first rows. -/
import Derived.Test.YthefnanhikjddaaDoorPE
namespace Go.Proofs.YthefnanhikjddaaDoor
open Go.ChangeShapes Go.WideShapes Go.ChangeAt Go.RowKit

theorem any_step (p : List Int → Bool) (R : List (List Int)) (k : Nat) (h : k < R.length) : (R.take (k + 1)).any p = ((R.take k).any p || p (rowK R k)) := by
  rw [List.take_succ_eq_append_getElem h, List.any_append]
  simp [rowK, List.getD, h]
theorem any_yes (p : List Int → Bool) (R : List (List Int)) (k : Nat) (h : k < R.length) (hp : p (rowK R k) = true) : R.any p = true := List.any_eq_true.2 ⟨_, rowK_mem h, hp⟩
end Go.Proofs.YthefnanhikjddaaDoor
