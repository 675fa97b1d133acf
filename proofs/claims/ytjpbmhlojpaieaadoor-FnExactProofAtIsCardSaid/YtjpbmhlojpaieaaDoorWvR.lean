/- The program's reading of a part of n points. -/
import Derived.Test.YtjpbmhlojpaieaaDoorWvP
namespace Go.Proofs.YtjpbmhlojpaieaaDoor
open Go.ChangeShapes Go.WideShapes Go.ChangeAt Go.RowKit

def asked (n : Int) : Bool := decide (3 ≤ n) && decide (n ≤ 6)
theorem askI_any (n : Int) (w : World) : Calls Tryd.prog 63 #[.int .i64 n] w fun e w' => e = .returned (.bool (asked n)) ∧ w = w' := by
  unfold asked
  by_cases h : 3 ≤ n
  all_goals
    go_enter Tryd.func63, Tryd.ntmps63
    go_wp2
    go_ret
    exact ⟨by simp [h]; try omega, rfl⟩
theorem flipW {P : Program} {f : FuncId} {args : Array Value} {w : World} {v : Value} (h : Calls P f args w fun e w' => e = .returned v ∧ w = w') : Calls P f args w fun e w' => e = .returned v ∧ w' = w :=
  h.mono fun _ _ ⟨a, b⟩ => ⟨a, b.symm⟩
def prtL (n : Int) (l : List Int) : List Int := if Prt n l then l else []
theorem prtL_yes {n : Int} {l : List Int} (h : Prt n l) : prtL n l = l := by rw [prtL, if_pos h]
theorem prtL_no {n : Int} {l : List Int} (h : ¬ Prt n l) : prtL n l = [] := by rw [prtL, if_neg h]

end Go.Proofs.YtjpbmhlojpaieaaDoor
