/- The laws' drawer of two rings that differ. -/
import Derived.Test.YtamnacgclhaggabDraw5
import Derived.Test.YtamnacgclhaggabDR
namespace Go.Proofs.Ytamnacgclhaggab
open Go.ChangeShapes Go.WideShapes Go.ChangeAt Go.RowKit

set_option maxHeartbeats 1000000 in
theorem drawSwapDiffer_any (n c H : Nat) (A : Option Addr) (w : World) (hb : Byt w H A n) (hH : H ≤ w.heap.size) (hnc : n ≤ c) (hc : c ≤ 9223372036854775807) :
    Calls Try.prog 40 #[.slice A n c] w fun e w' => ∃ v v' l l', e = .returned (.tuple #[v, v']) ∧ NewR w' v l ∧ NewR w' v' l' ∧ (l.length ≤ 7 ∧ l'.length ≤ 7) ∧ Below w.heap.size w w' := by
  have HP := Lib.hid (pair92_any n c H A w hb hH hnc hc)
  clear hb
  go_enter Try.func40, Try.ntmps40
  go_wp2_with fail
  refine HP.out.mono ?_
  rintro e w2 ⟨v, v', l, l', rfl, hv, hv', hll, hb⟩
  have HV := Lib.hid (hv.newR hll.1)
  have HV' := Lib.hid (hv'.newR hll.2)
  have HB := Lib.hid hb
  clear hv hv' hb HP
  go_wp2
  go_ret2
  exact ⟨v, v', l, l', rfl, HV.out, HV'.out, hll, HB.out⟩
set_option maxHeartbeats 1000000 in
theorem drawArcCommon_any (n c H : Nat) (A : Option Addr) (w : World) (hb : Byt w H A n) (hH : H ≤ w.heap.size) (hnc : n ≤ c) (hc : c ≤ 9223372036854775807) :
    Calls Try.prog 45 #[.slice A n c] w fun e w' => ∃ v v' l l', e = .returned (.tuple #[v, v']) ∧ NewR w' v l ∧ NewR w' v' l' ∧ (l.length ≤ 7 ∧ l'.length ≤ 7) ∧ Below w.heap.size w w' := by
  have HP := Lib.hid (pair92_any n c H A w hb hH hnc hc)
  clear hb
  go_enter Try.func45, Try.ntmps45
  go_wp2_with fail
  refine HP.out.mono ?_
  rintro e w2 ⟨v, v', l, l', rfl, hv, hv', hll, hb⟩
  have HV := Lib.hid (hv.newR hll.1)
  have HV' := Lib.hid (hv'.newR hll.2)
  have HB := Lib.hid hb
  clear hv hv' hb HP
  go_wp2
  go_ret2
  exact ⟨v, v', l, l', rfl, HV.out, HV'.out, hll, HB.out⟩
end Go.Proofs.Ytamnacgclhaggab
