/- The laws' drawer of threes: some list of three numbers, in new memory. -/
import Derived.Test.YtamnacgclhaggabDR
namespace Go.Proofs.Ytamnacgclhaggab
open Go.ChangeShapes Go.WideShapes Go.ChangeAt Go.RowKit

theorem tmod_nat (a m : Nat) : Int.tmod (a : Int) (m : Int) = ((a % m : Nat) : Int) := by rw [Int.tmod_eq_emod_of_nonneg (by omega)]; simp

end Go.Proofs.Ytamnacgclhaggab
