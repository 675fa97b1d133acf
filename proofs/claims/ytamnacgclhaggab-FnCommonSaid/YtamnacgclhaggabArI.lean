/- A ring and a set read by the program; whether a set is an arc, how many arcs, the first and the last point of one. -/
import Derived.Test.YtamnacgclhaggabArS
import Derived.Test.YtamnacgclhaggabLrn
namespace Go.Proofs.Ytamnacgclhaggab
open Go.ChangeShapes Go.WideShapes Go.ChangeAt Go.RowKit

theorem pow7 (n : Nat) (h : n ≤ 7) : (2 : Int) ^ n - 1 = ((2 ^ n - 1 : Nat) : Int) := by
  obtain rfl | rfl | rfl | rfl | rfl | rfl | rfl | rfl : n = 0 ∨ n = 1 ∨ n = 2 ∨ n = 3 ∨ n = 4 ∨ n = 5 ∨ n = 6 ∨ n = 7 := by omega
  all_goals decide
end Go.Proofs.Ytamnacgclhaggab
