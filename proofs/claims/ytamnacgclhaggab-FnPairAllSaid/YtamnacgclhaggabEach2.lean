/- The program's reading of a list of lists, each one a pair. -/
import Derived.Test.YtamnacgclhaggabPE
import Derived.Test.YtamnacgclhaggabPar
import Derived.StillTailTactics
namespace Go.Proofs.Ytamnacgclhaggab
open Go.ChangeShapes Go.WideShapes Go.ChangeAt Go.RowKit

theorem made_two (n : Nat) : (madeCells #[Value.int .i64 0, Value.int .i64 0] (n * 2)).toList = ints (List.replicate n [0, 0]).flatten := by
  rw [made_cells _ (.int .i64 0) (by decide) (fun i hi => by
    simp only [List.size_toArray, List.length_cons, List.length_nil] at hi
    obtain rfl | rfl : i = 0 ∨ i = 1 := by omega
    all_goals rfl)]
  rw [show ([0, 0] : List Int) = List.replicate 2 0 from rfl, List.flatten_replicate_replicate, ints, List.map_replicate]

end Go.Proofs.Ytamnacgclhaggab
