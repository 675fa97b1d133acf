/- The laws' drawer of a ring for all its threes. -/
import Derived.Test.YtamnacgclhaggaaDR
namespace Go.Proofs.Ytamnacgclhaggaa
open Go.ChangeShapes Go.WideShapes Go.ChangeAt Go.RowKit

set_option maxRecDepth 10000 in
set_option maxHeartbeats 1000000 in
theorem drawThreeAll_any (n c H : Nat) (A : Option Addr) (w : World) (hb : Byt w H A n) (hH : H ≤ w.heap.size) (hnc : n ≤ c) (hc : c ≤ 9223372036854775807) :
    Calls Try.prog 12 #[.slice A n c] w fun e w' => ∃ v l, e = .returned v ∧ NewR w' v l ∧ (2 ≤ l.length ∧ l.length ≤ 7) ∧ Below w.heap.size w w' := by
  have HOP := Lib.hid (openS_any n c H A w hb hH hnc hc)
  clear hb
  go_enter Try.func12, Try.ntmps12
  go_wp2_with fail
  refine HOP.out.mono ?_
  rintro e w1 ⟨rfl, ⟨n', hn', h1, h2⟩, hb1⟩
  have HRG := Lib.hid (ring91_any w.heap.size n' c H 0 6 A w1 h1 h2 hH (by omega) hn' (by omega) (by omega))
  have HB1 := Lib.hid hb1
  have hlt := h1.lt
  clear h1 h2 hb1 HOP
  go_wp2_with fail
  refine HRG.out.mono ?_
  rintro e w2 ⟨v, l, q, rfl, hv, ⟨hl, h1, hq⟩, hg⟩
  have HB2 := Lib.hid (below_grown HB1.out hg hlt)
  have HV := Lib.hid (hv.newR hl)
  clear hv h1 hg HB1 HRG
  go_wp2
  go_ret
  exact ⟨v, l, rfl, HV.out, ⟨hq.2, hl⟩, HB2.out⟩
end Go.Proofs.Ytamnacgclhaggaa
