/- The laws' own helpers over slices of slices: the size, the copy, the comparison, the marking and the check of marks. -/
import Derived.Test.YtoifdfbhhdedbaaDoorMat
namespace Go.Proofs.YtoifdfbhhdedbaaDoor
open Go.ChangeShapes Go.WideShapes Go.ChangeAt Go.RowKit

/-- How many numbers and rows there are among the first k rows. -/
def sumTo (L : List (List Int)) : Nat → Nat
  | 0 => 0
  | k + 1 => sumTo L k + (rowK L k).length
def tot (L : List (List Int)) : Nat := L.length + sumTo L L.length
theorem sumTo_le (L : List (List Int)) (k m : Nat) (h : k ≤ m) : sumTo L k ≤ sumTo L m := by
  induction m with
  | zero => obtain rfl : k = 0 := by omega
            exact Nat.le_refl _
  | succ m ih =>
    rcases Nat.lt_or_ge k (m + 1) with h1 | h1
    · have := ih (by omega); simp only [sumTo]; omega
    · obtain rfl : k = m + 1 := by omega
      exact Nat.le_refl _
theorem row_le (L : List (List Int)) (k : Nat) (h : k < L.length) : (rowK L k).length ≤ tot L := by
  have := sumTo_le L (k + 1) L.length (by omega)
  simp only [sumTo] at this
  unfold tot; omega

/-- What eqIntSS answers. -/
def sameS (L M : List (List Int)) : Bool := decide (L = M)
theorem takeS_step (xs ys : List (List Int)) (k : Nat) (hx : k < xs.length) (hy : k < ys.length) (h : xs.take k = ys.take k) (e : rowK xs k = rowK ys k) : xs.take (k + 1) = ys.take (k + 1) := by
  rw [List.take_succ_eq_append_getElem hx, List.take_succ_eq_append_getElem hy, h]
  simp [rowK, List.getD, hx, hy] at e
  rw [e]

end Go.Proofs.YtoifdfbhhdedbaaDoor
