/- The first and the last point of an arc: the model. -/
import Derived.Test.YtheoepbcejlncaaArS
namespace Go.Proofs.Ytheoepbcejlncaa
open Go.ChangeShapes Go.WideShapes Go.ChangeAt Go.RowKit

def firR (l : List Int) (s : Int) : Int := if arcB l s then firstA (hasN s.toNat) l else 0
def finR (l : List Int) (s : Int) : Int := if arcB l s then finA (hasN s.toNat) l else 0
theorem arc_set {l : List Int} {s : Int} (h : arcB l s = true) : SetL l s ∧ runN (hasN s.toNat) l = 1 := by
  simpa [arcB, setB] using h

end Go.Proofs.Ytheoepbcejlncaa
