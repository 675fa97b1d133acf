/- The laws' drawers of a parting, and of a scheme: some number, some lists of four. -/
import Derived.Test.YtamnacgclhaggaaDraw35
import Derived.Test.YtamnacgclhaggaaPE
import Derived.Test.YtamnacgclhaggaaDR
import Derived.Test.YtamnacgclhaggaaPart
import Derived.Test.YtamnacgclhaggaaPqM
import Derived.Test.YtamnacgclhaggaaRwS
namespace Go.Proofs.Ytamnacgclhaggaa
open Go.ChangeShapes Go.WideShapes Go.ChangeAt Go.RowKit

set_option maxRecDepth 10000 in
set_option maxHeartbeats 1000000 in
theorem drawPairParts_any (n c H : Nat) (A : Option Addr) (w : World) (hb : Byt w H A n) (hH : H ≤ w.heap.size) (hnc : n ≤ c) (hc : c ≤ 9223372036854775807) :
    Calls Try.prog 22 #[.slice A n c] w fun e w' => ∃ v l v' t, e = .returned (.tuple #[v, v']) ∧ NewR w' v l ∧ NewR w' v' t ∧ Below w.heap.size w w' := by
  have HOP := Lib.hid (openS_any n c H A w hb hH hnc hc)
  clear hb
  go_enter Try.func22, Try.ntmps22
  go_wp2_with fail
  refine HOP.out.mono ?_
  rintro e w1 ⟨rfl, ⟨n', hn', h1, h2⟩, hb1⟩
  have HPK := Lib.hid (pick_any w.heap.size n' c H 0 4 A w1 h1 h2 hH (by omega) (by omega) (by omega) (by omega))
  have HB1 := Lib.hid hb1
  have HY1 := Lib.hid h2
  have hlt := h1.lt
  clear h1 h2 hb1 HOP
  go_wp2_with fail
  refine HPK.out.mono ?_
  rintro e w2 ⟨⟨v, hv, rfl⟩, h1, hg, hz⟩
  clear hz
  have HB2 := Lib.hid (below_grown HB1.out hg hlt)
  have HY2 := Lib.hid (HY1.out.grown hg hH)
  obtain ⟨m, hm⟩ : ∃ m : Nat, m = 4 + v := ⟨_, rfl⟩
  have hw1 : IntKind.i64.wrap (4 + (v : Int)) = (m : Int) := by rw [IntWalk.i64_in _ (by omega)]; omega
  have lm4 : 4 ≤ m := by omega
  have lm7 : m ≤ 7 := by omega
  clear hv hm
  have HOF := Lib.hid (of91t_any w.heap.size n' c H (0 + 1) m A w2 h1 HY2.out hH (by omega) (by omega) (by omega) (by omega))
  have hlt2 := h1.lt
  clear h1 hg HPK HB1 HY1
  go_wp2_with fail
  refine HOF.out.mono ?_
  rintro e w3 ⟨av, l, q, rfl, hown, ⟨hll, hof, h1, hq⟩, hg⟩
  obtain ⟨Aa, ca, rfl⟩ := hown.slice
  have HRV := Lib.hid hown.rowV5
  have HB3 := Lib.hid (below_grown HB2.out hg hlt2)
  have HY3 := Lib.hid (HY2.out.grown hg hH)
  have HF4 := Lib.hid (four91_any w.heap.size n' c H q m A w3 h1 HY3.out hH (by omega) (by omega) (by omega) (by omega))
  have hlt3 := h1.lt
  have HLL := Lib.hid hll
  rw [hll]
  clear h1 hg HOF HB2 HY2 hown hof hll
  go_wp2_with fail
  refine HF4.out.mono ?_
  rintro e w4 ⟨v4, t, rfl, hrv, ⟨ht4, _⟩, _, hg⟩
  obtain ⟨A4, c4, e, _, _⟩ := hrv.2
  subst e
  have N1 := Lib.hid ((HRV.out.grown5 hg hlt2).newR (by rw [HLL.out]; exact lm7))
  have N2 := Lib.hid (hrv.newR (by rw [ht4]; omega))
  have HB4 := Lib.hid (below_grown HB3.out hg hlt3)
  clear hrv hg HF4 HRV ht4
  go_wp2
  go_ret2
  exact ⟨_, l, _, t, rfl, by have := N1.out; rwa [HLL.out] at this, N2.out, HB4.out⟩
end Go.Proofs.Ytamnacgclhaggaa
