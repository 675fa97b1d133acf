/- The laws' drawers of numbers of points and of rings. -/
import Derived.Test.YtamnacgclhaggabDraw7
import Derived.Deep.RegionHeld3
namespace Go.Proofs.Ytamnacgclhaggab
open Go.ChangeShapes Go.WideShapes Go.ChangeAt Go.RowKit

theorem tdiv_one (v d : Nat) (h : v < 2 * d) : ∃ q : Nat, q ≤ 1 ∧ Int.tdiv (v : Int) (d : Int) = (q : Int) := by
  refine ⟨v / d, ?_, ?_⟩
  · rcases Nat.eq_zero_or_pos d with rfl | hd
    · simp
    · have := Nat.div_lt_of_lt_mul (show v < d * 2 by omega)
      omega
  · rw [Int.tdiv_eq_ediv_of_nonneg (by omega)]; simp

end Go.Proofs.Ytamnacgclhaggab
