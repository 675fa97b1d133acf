/- The laws' drawers of swaps: a ring and a point, one ring. -/
import Derived.Test.YtamnacgclhaggabDraw7
import Derived.Test.YtamnacgclhaggabDR
namespace Go.Proofs.Ytamnacgclhaggab
open Go.ChangeShapes Go.WideShapes Go.ChangeAt Go.RowKit

set_option maxHeartbeats 1000000 in
theorem drawSwapAt_any (n c H : Nat) (A : Option Addr) (w : World) (hb : Byt w H A n) (hH : H ≤ w.heap.size) (hnc : n ≤ c) (hc : c ≤ 9223372036854775807) :
    Calls Try.prog 32 #[.slice A n c] w fun e w' => ∃ v l x, e = .returned (.tuple #[v, .int .i64 x]) ∧ NewR w' v l ∧ (2 ≤ l.length ∧ l.length ≤ 7) ∧ Below w.heap.size w w' := by
  have HP := Lib.hid (point91_any n c H A w hb hH hnc hc)
  clear hb
  go_enter Try.func32, Try.ntmps32
  go_wp2_with fail
  refine HP.out.mono ?_
  rintro e w2 ⟨v, l, x, rfl, hv, hl, hb⟩
  have HV := Lib.hid hv
  have HB := Lib.hid hb
  clear hv hb HP
  go_wp2
  go_ret2
  exact ⟨v, l, x, rfl, HV.out, hl, HB.out⟩
set_option maxHeartbeats 1000000 in
theorem drawSwapNear_any (n c H : Nat) (A : Option Addr) (w : World) (hb : Byt w H A n) (hH : H ≤ w.heap.size) (hnc : n ≤ c) (hc : c ≤ 9223372036854775807) :
    Calls Try.prog 37 #[.slice A n c] w fun e w' => ∃ v l, e = .returned v ∧ NewR w' v l ∧ (2 ≤ l.length ∧ l.length ≤ 7) ∧ Below w.heap.size w w' := by
  have HP := Lib.hid (one91_any n c H A w hb hH hnc hc)
  clear hb
  go_enter Try.func37, Try.ntmps37
  go_wp2_with fail
  refine HP.out.mono ?_
  rintro e w2 ⟨v, l, rfl, hv, hl, hb⟩
  have HV := Lib.hid hv
  have HB := Lib.hid hb
  clear hv hb HP
  go_wp2
  go_ret
  exact ⟨v, l, rfl, HV.out, hl, HB.out⟩
end Go.Proofs.Ytamnacgclhaggab
