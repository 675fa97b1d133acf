/- The laws' drawer of two parts that share all points, seldom others. -/
import Derived.Test.YtgojojoanhilnaaDoorDR
import Derived.Test.YtgojojoanhilnaaDoorWvS
import Derived.OwnWalk
namespace Go.Proofs.YtgojojoanhilnaaDoor
open Go.ChangeShapes Go.WideShapes Go.ChangeAt Go.RowKit

theorem below_g6 {w w1 w2 : World} {R : Nat} (h : Below R w w1) (hg : w1.grownBy w2 (some R)) (hR : R < w1.heap.size) : Below R w w2 :=
  h.grown hg (by omega) (by intro k hk; have e : R = k := Option.some.inj hk; omega)
theorem byt_below {w w' : World} {H B n : Nat} {A : Option Addr} (h : Byt w H A n) (hb : Below B w w') (hH : H ≤ B) : Byt w' H A n := h.below (hb.mono hH)

end Go.Proofs.YtgojojoanhilnaaDoor
