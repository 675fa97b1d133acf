/- PairParts of the model and of the program. -/
import Derived.Test.YtheoepbcejlncaaPart
import Derived.Test.YtheoepbcejlncaaIn
namespace Go.Proofs.Ytheoepbcejlncaa
open Go.ChangeShapes Go.WideShapes Go.ChangeAt Go.RowKit

def prtB (l t : List Int) : Bool := ringB l && four l.length t && partB l t

theorem four_mem {l t : List Int} (h : Tell l) (ht : Four l.length t) : ∃ x y z u, t = [x, y, z, u] ∧ x ∈ l ∧ y ∈ l ∧ z ∈ l ∧ u ∈ l := by
  obtain ⟨x, y, z, u, rfl⟩ := of_four ht.1
  have hm := ht.2.1
  exact ⟨x, y, z, u, rfl, h.has (hm x (by simp)).1 (hm x (by simp)).2, h.has (hm y (by simp)).1 (hm y (by simp)).2, h.has (hm z (by simp)).1 (hm z (by simp)).2, h.has (hm u (by simp)).1 (hm u (by simp)).2⟩

end Go.Proofs.Ytheoepbcejlncaa
