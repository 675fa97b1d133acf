/- ThreeIn of the model and of the program. -/
import Derived.Test.YthfbllgfcidhkaaHas3
import Derived.Test.YthfbllgfcidhkaaIn
namespace Go.Proofs.Ythfbllgfcidhkaa
open Go.ChangeShapes Go.WideShapes Go.ChangeAt Go.RowKit

def inB (l t : List Int) : Bool := ringB l && thr l.length t && has3 l t

theorem thr_mem {l t : List Int} (h : Tell l) (ht : Thr l.length t) : ∃ x y z, t = [x, y, z] ∧ x ∈ l ∧ y ∈ l ∧ z ∈ l := by
  obtain ⟨x, y, z, rfl⟩ := of_three ht.1
  have hm := ht.2.1
  exact ⟨x, y, z, rfl, h.has (hm x (by simp)).1 (hm x (by simp)).2, h.has (hm y (by simp)).1 (hm y (by simp)).2, h.has (hm z (by simp)).1 (hm z (by simp)).2⟩

end Go.Proofs.Ythfbllgfcidhkaa
