/- The list of the first one of some rings. -/
import Derived.Test.YthfbllgfcidhkaaAllR
import Derived.Test.YthfbllgfcidhkaaOwn
namespace Go.Proofs.Ythfbllgfcidhkaa
open Go.ChangeShapes Go.WideShapes Go.ChangeAt Go.RowKit

theorem ownG_dn {w : World} {B B' : Nat} {v : Value} {l : List Int} (h : OwnG w B v l) (hB : B' ≤ B) : OwnG w B' v l := by
  rcases h with e | ⟨g, o, c, cur, e, hb, rest⟩
  · exact .inl e
  · exact .inr ⟨g, o, c, cur, e, by omega, rest⟩

end Go.Proofs.Ythfbllgfcidhkaa
