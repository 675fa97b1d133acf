/- The program's reading of a part of n points. -/
import Derived.Test.YtphffefkjbgibabDoorWvP
namespace Go.Proofs.YtphffefkjbgibabDoor
open Go.ChangeShapes Go.WideShapes Go.ChangeAt Go.RowKit

def asked (n : Int) : Bool := decide (3 ≤ n) && decide (n ≤ 6)
theorem flipW {P : Program} {f : FuncId} {args : Array Value} {w : World} {v : Value} (h : Calls P f args w fun e w' => e = .returned v ∧ w = w') : Calls P f args w fun e w' => e = .returned v ∧ w' = w :=
  h.mono fun _ _ ⟨a, b⟩ => ⟨a, b.symm⟩
def prtL (n : Int) (l : List Int) : List Int := if Prt n l then l else []
theorem prtL_yes {n : Int} {l : List Int} (h : Prt n l) : prtL n l = l := by rw [prtL, if_pos h]
theorem prtL_no {n : Int} {l : List Int} (h : ¬ Prt n l) : prtL n l = [] := by rw [prtL, if_neg h]

end Go.Proofs.YtphffefkjbgibabDoor
