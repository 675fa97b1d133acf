/- The program's reading of a three. -/
import Derived.Test.YtheoepbcejlncaaTri
import Derived.Test.YtheoepbcejlncaaPts
import Derived.StillTailTactics
namespace Go.Proofs.Ytheoepbcejlncaa
open Go.ChangeShapes Go.WideShapes Go.ChangeAt Go.RowKit

/-- What is read: the three, or three noughts. -/
def thrL (n : Int) (l : List Int) : List Int := if Thr n l then l else [0, 0, 0]
theorem thrL_length (n : Int) (l : List Int) : (thrL n l).length = 3 := by
  unfold thrL
  split
  · rename_i h; exact h.1
  · rfl
theorem thr_yes {n : Int} {l : List Int} (h : Thr n l) : thr n l = true ∧ thrL n l = l := ⟨by simpa [thr] using h, by rw [thrL, if_pos h]⟩
theorem thr_no {n : Int} {l : List Int} (h : ¬ Thr n l) : thr n l = false ∧ thrL n l = [0, 0, 0] := ⟨by simpa [thr] using h, by rw [thrL, if_neg h]⟩

theorem thr_pts (n : Int) (l : List Int) : Thr n l ↔ l.length = 3 ∧ Pts n l := Iff.rfl

abbrev zero3 : List Int := [0, 0, 0]
end Go.Proofs.Ytheoepbcejlncaa
