/- The laws' drawers of a ring for all its partings. -/
import Derived.Test.YtamnacgclhaggabDR
namespace Go.Proofs.Ytamnacgclhaggab
open Go.ChangeShapes Go.WideShapes Go.ChangeAt Go.RowKit

theorem drawPairAll_any (n c H : Nat) (A : Option Addr) (w : World) (hb : Byt w H A n) (hH : H ≤ w.heap.size) (hnc : n ≤ c) (hc : c ≤ 9223372036854775807) :
    Calls Try.prog 12 #[.slice A n c] w fun e w' => ∃ v l, e = .returned v ∧ NewR w' v l ∧ (2 ≤ l.length ∧ l.length ≤ 7) ∧ Below w.heap.size w w' := by
  have HP := Lib.hid (one91_any n c H A w hb hH hnc hc)
  clear hb
  go_enter Try.func12, Try.ntmps12
  go_wp2_with fail
  refine HP.out.mono ?_
  rintro e w2 ⟨v, l, rfl, hv, hl, hb⟩
  have HV := Lib.hid hv
  have HB := Lib.hid hb
  clear hv hb HP
  go_wp2
  go_ret
  exact ⟨v, l, rfl, HV.out, hl, HB.out⟩
end Go.Proofs.Ytamnacgclhaggab
