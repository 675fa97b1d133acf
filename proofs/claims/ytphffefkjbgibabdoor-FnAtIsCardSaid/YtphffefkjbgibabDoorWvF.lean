/- The program's reading of a list of parts, and of two parts that have each point in one of them. -/
import Derived.Test.YtphffefkjbgibabDoorWvE
namespace Go.Proofs.YtphffefkjbgibabDoor
open Go.ChangeShapes Go.WideShapes Go.ChangeAt Go.RowKit

/-- Whether lists are at most ten parts of n points. -/
def Lst (n : Int) (L : List (List Int)) : Prop := (3 ≤ n ∧ n ≤ 6) ∧ L.length ≤ 10 ∧ ∀ l ∈ L, Prt n l
instance (n : Int) (L : List (List Int)) : Decidable (Lst n L) := by unfold Lst; infer_instance
def lst (n : Int) (L : List (List Int)) : Bool := decide (Lst n L)
def lstL (n : Int) (L : List (List Int)) : List (List Int) := if Lst n L then L else []
theorem lst_yes {n : Int} {L : List (List Int)} (h : Lst n L) : lst n L = true ∧ lstL n L = L := ⟨by simpa [lst] using h, by rw [lstL, if_pos h]⟩
theorem lst_no {n : Int} {L : List (List Int)} (h : ¬ Lst n L) : lst n L = false ∧ lstL n L = [] := ⟨by simpa [lst] using h, by rw [lstL, if_neg h]⟩

end Go.Proofs.YtphffefkjbgibabDoor
