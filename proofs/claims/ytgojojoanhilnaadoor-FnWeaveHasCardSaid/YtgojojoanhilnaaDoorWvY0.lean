/- The model's check of two parts that share all points; WeaveSum of the model and of the program. -/
import Derived.Test.YtgojojoanhilnaaDoorWvG
import Derived.Test.YtgojojoanhilnaaDoorWA
namespace Go.Proofs.YtgojojoanhilnaaDoor
open Go.ChangeShapes Go.WideShapes Go.ChangeAt Go.RowKit


/-- How many rings two woven parts are in, by factorials. -/
def wsmR (n : Int) (p q : List Int) : Int := if Wov n p q then facN (n - 1).toNat / (facN (p.length - 1) * facN (q.length - 1)) else 0
theorem wov_len {n : Int} {p q : List Int} (h : Wov n p q) : (p.length : Int) + q.length = n := ((wov_model h.1 h.2.1).1 h).1

end Go.Proofs.YtgojojoanhilnaaDoor
