/- The laws' drawers of a ring and a point. -/
import Derived.Test.YtamnacgclhaggabDR
import Derived.OwnWalk
namespace Go.Proofs.Ytamnacgclhaggab
open Go.ChangeShapes Go.WideShapes Go.ChangeAt Go.RowKit

set_option maxRecDepth 10000 in
set_option maxHeartbeats 2000000 in
theorem point91_any (n c H : Nat) (A : Option Addr) (w : World) (hb : Byt w H A n) (hH : H ≤ w.heap.size) (hnc : n ≤ c) (hc : c ≤ 9223372036854775807) :
    Calls Try.prog 77 #[.slice A n c] w fun e w' => ∃ v l x, e = .returned (.tuple #[v, .int .i64 x]) ∧ NewR w' v l ∧ (2 ≤ l.length ∧ l.length ≤ 7) ∧ Below w.heap.size w w' := by
  have HOP := Lib.hid (openS_any n c H A w hb hH hnc hc)
  clear hb
  go_enter Try.func77, Try.ntmps77
  go_wp2_with fail
  refine HOP.out.mono ?_
  rintro e w1 ⟨rfl, ⟨n', hn', h1, h2⟩, hb1⟩
  have HRG := Lib.hid (ring91_any w.heap.size n' c H 0 7 A w1 h1 h2 hH (by omega) hn' (by omega) (by omega))
  have HB1 := Lib.hid hb1
  have HY1 := Lib.hid h2
  have hlt := h1.lt
  generalize hR : w.heap.size = R at *
  have HRq := Lib.hid hR
  clear h1 h2 hb1 HOP hR
  go_wp2_with fail
  refine HRG.out.mono ?_
  rintro e w2 ⟨v, l, q, rfl, hv, ⟨hl, h1, hq⟩, hg⟩
  have HB2 := Lib.hid (below_grown HB1.out hg hlt)
  have HY2 := Lib.hid (HY1.out.grown hg hH)
  obtain ⟨Av, cv, ev, hcv1, hcv2⟩ := hv.2
  subst ev
  have HV2 := Lib.hid hv
  have hlt2 := h1.lt
  have HP2 := Lib.hid (pick_any R n' c H q 24 A w2 h1 HY2.out hH (by omega) hn' (by omega) (by omega))
  clear hv h1 hg HB1 HRG HY1
  go_wp2_with (first
    | (go_at_call 71
       refine HP2.out.mono ?_
       rintro e w3 ⟨⟨v3, hv3, rfl⟩, h1, hg, h3⟩
       have HB3 := Lib.hid (below_grown HB2.out hg hlt2)
       have HY3 := Lib.hid (HY2.out.grown hg hH)
       have HV3 := Lib.hid (HV2.out.grown5 hg hlt)
       have hlt3 := h1.lt
       obtain ⟨q3, hq3⟩ : ∃ q3, q3 = v3 / 23 := ⟨_, rfl⟩
       have t3 : Int.tdiv (v3 : Int) 23 = (q3 : Int) := by rw [Int.tdiv_eq_ediv_of_nonneg (by omega), hq3]; simp
       have k3 : q3 ≤ 1 := by omega
       have x3 : IntKind.i64.wrap (q3 : Int) = (q3 : Int) := IntWalk.i64_in _ (by omega)
       have y3 : IntKind.i64.wrap ((l.length : Int) + (q3 : Int)) = (l.length : Int) + (q3 : Int) := IntWalk.i64_in _ (by omega)
       have HP3 := Lib.hid (pick_any R n' c H (q + 1) (l.length + q3) A w3 h1 HY3.out hH (by omega) hn' (by omega) (by omega))
       rw [show ((l.length + q3 : Nat) : Int) = (l.length : Int) + (q3 : Int) by omega] at HP3
       clear h1 hg HB2 HP2 HY2 HV2 hq3 hv3 h3 hlt2)
    | (go_at_call 71
       refine HP3.out.mono ?_
       rintro e w4 ⟨⟨v4, hv4, rfl⟩, h1, hg, h3⟩
       have HB4 := Lib.hid (below_grown HB3.out hg hlt3)
       have HY4 := Lib.hid (HY3.out.grown hg hH)
       have HV4 := Lib.hid (HV3.out.grown5 hg hlt)
       have hlt4 := h1.lt
       have HP4 := Lib.hid (pick_any R n' c H (q + 1 + 1) 24 A w4 h1 HY4.out hH (by omega) hn' (by omega) (by omega))
       clear h1 hg HB3 HP3 HY3 HV3 h3 hlt3 t3 x3 y3)
    | (go_at_call 71
       refine HP4.out.mono ?_
       rintro e w5 ⟨⟨v5, hv5, rfl⟩, h1, hg, h3⟩
       have HB5 := Lib.hid (below_grown HB4.out hg hlt4)
       have HV5 := Lib.hid ((HV4.out.grown5 hg hlt).newR hl)
       obtain ⟨q5, hq5⟩ : ∃ q5, q5 = v5 / 23 := ⟨_, rfl⟩
       have t5 : Int.tdiv (v5 : Int) 23 = (q5 : Int) := by rw [Int.tdiv_eq_ediv_of_nonneg (by omega), hq5]; simp
       have k5 : q5 ≤ 1 := by omega
       have x5 : IntKind.i64.wrap (q5 : Int) = (q5 : Int) := IntWalk.i64_in _ (by omega)
       have y5 : IntKind.i64.wrap ((v4 : Int) - (q5 : Int)) = (v4 : Int) - (q5 : Int) := IntWalk.i64_in _ (by omega)
       clear h1 hg HB4 HP4 HY4 HV4 h3 hlt4))
  go_ret2
  exact ⟨_, l, _, rfl, HV5.out, ⟨hq.2, hl⟩, by rw [HRq.out]; exact HB5.out⟩

end Go.Proofs.Ytamnacgclhaggab
