/- The library's table of the door, as a fact on worlds. -/
import Derived.Test.YthefnanhikjddaaDoorFold
import Derived.Test.YthefnanhikjddaaDoorPE
import Derived.Lib.TrailingZeros
import Derived.Laws.Bits64b
namespace Go.Proofs.YthefnanhikjddaaDoor
open Go.ChangeShapes Go.WideShapes Go.ChangeAt Go.RowKit

def tabI : List Int := Lib.deBruijn64tab.map fun z : Nat => (z : Int)
theorem tab_len : tabI.length = 64 := by decide
/-- The library's table lies in its variable. -/
def Tab (w : World) : Prop := 2 ≤ w.heap.size ∧ ∀ j, j < 64 → w.cell? ⟨1, j, none⟩ = some (.int .u8 (tabI.getD j 0))
theorem Tab.below {w w' : World} {B : Nat} (h : Tab w) (hb : Below B w w') (hB : 2 ≤ B) : Tab w' :=
  ⟨Nat.le_trans h.1 hb.size, fun j hj => (hb.cell (p := ⟨1, j, none⟩) (by simp; omega)).trans (h.2 j hj)⟩
theorem Tab.on {w w' : World} (h : Tab w) (hb : Below w.heap.size w w') : Tab w' := h.below hb h.1
theorem Tab.turn {w w' : World} {B C : Nat} (h : Tab w) (ht : Turn B C w w') (hB : 2 ≤ B) : Tab w' := h.below (below_turn (Below.refl 2 w) ht hB h.1) (Nat.le_refl _)
theorem Tab.drewN {w : World} (h : Tab w) (k : Nat) : Tab (w.drewN k) := h
theorem Tab.alloc {w : World} (h : Tab w) (o : Obj) : Tab (w.alloc o) := h.on ((Below.refl _ _).alloc (Nat.le_refl _) _)

end Go.Proofs.YthefnanhikjddaaDoor
