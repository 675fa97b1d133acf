/- The laws' drawer of a ring and two points, often beside each other. -/
import Derived.Test.YtamnacgclhaggaaDR
import Derived.Test.YtamnacgclhaggaaPR
import Derived.OwnWalk
namespace Go.Proofs.Ytamnacgclhaggaa
open Go.ChangeShapes Go.WideShapes Go.ChangeAt Go.RowKit

set_option maxRecDepth 10000 in
set_option maxHeartbeats 4000000 in
theorem drawPairBeside_any (n c H : Nat) (A : Option Addr) (w : World) (hb : Byt w H A n) (hH : H ≤ w.heap.size) (hnc : n ≤ c) (hc : c ≤ 9223372036854775807) :
    Calls Try.prog 31 #[.slice A n c] w fun e w' => ∃ v l x y, e = .returned (.tuple #[v, .int .i64 x, .int .i64 y]) ∧ NewR w' v l ∧ (2 ≤ l.length ∧ l.length ≤ 7) ∧ Below w.heap.size w w' := by
  have HOP := Lib.hid (openS_any n c H A w hb hH hnc hc)
  clear hb
  go_enter Try.func31, Try.ntmps31
  go_wp2_with fail
  refine HOP.out.mono ?_
  rintro e w1 ⟨rfl, ⟨n', hn', h1, h2⟩, hb1⟩
  have HRG := Lib.hid (ring91_any w.heap.size n' c H 0 7 A w1 h1 h2 hH (by omega) hn' (by omega) (by omega))
  have HB1 := Lib.hid hb1
  have HY1 := Lib.hid h2
  have hlt := h1.lt
  generalize hR : w.heap.size = R at *
  have HRq := Lib.hid hR
  clear h1 h2 hb1 HOP hR
  go_wp2_with fail
  refine HRG.out.mono ?_
  rintro e w2 ⟨v, l, q, rfl, hv, ⟨hl, h1, hq⟩, hg⟩
  have HB2 := Lib.hid (below_grown HB1.out hg hlt)
  have HY2 := Lib.hid (HY1.out.grown hg hH)
  obtain ⟨Av, cv, ev, hcv1, hcv2⟩ := hv.2
  subst ev
  have HV2 := Lib.hid hv
  have hlt2 := h1.lt
  have HPx := Lib.hid (pick_any R n' c H q l.length A w2 h1 HY2.out hH (by omega) hn' (by omega) (by omega))
  clear hv h1 hg HB1 HRG HY1
  go_wp2_with fail
  refine HPx.out.mono ?_
  rintro e wx ⟨⟨vx, hvx, rfl⟩, h1, hg, h3⟩
  replace HB2 := Lib.hid (below_grown HB2.out hg hlt2)
  replace HY2 := Lib.hid (HY2.out.grown hg hH)
  replace HV2 := Lib.hid (HV2.out.grown5 hg hlt)
  replace hlt2 := h1.lt
  have HPt := Lib.hid (pick_any R n' c H (q + 1) 2 A wx h1 HY2.out hH (by omega) hn' (by omega) (by omega))
  clear h1 hg HPx h3
  go_wp2_with fail
  refine HPt.out.mono ?_
  rintro e wy ⟨⟨vy, hvy, rfl⟩, h1, hg, h3⟩
  replace HB2 := Lib.hid (below_grown HB2.out hg hlt2)
  replace HY2 := Lib.hid (HY2.out.grown hg hH)
  replace HV2 := Lib.hid (HV2.out.grown5 hg hlt)
  replace hlt2 := h1.lt
  have HP2 := Lib.hid (pick_any R n' c H (q + 1 + 1) 24 A wy h1 HY2.out hH (by omega) hn' (by omega) (by omega))
  have HHA := Lib.hid (hasS_any Av l.length cv wy.heap.size l (vx : Int) wy HV2.out.1.rd.2 (by omega))
  have HCU := Lib.hid (fun hm => cutS_any Av l.length cv wy.heap.size l (vx : Int) wy.drew HV2.out.1.rd.2 (Nat.le_refl _) (by omega) hl hm)
  clear h1 hg HPt h3
  obtain rfl | rfl : vy = 0 ∨ vy = 1 := by omega
  rotate_left
  · clear HHA HCU
    go_wp2_with (first
      | (go_at_call 59
         refine HP2.out.mono ?_
         rintro e w3 ⟨⟨v3, hv3, rfl⟩, h1, hg, h3⟩
         have HB3 := Lib.hid (below_grown HB2.out hg hlt2)
         have HY3 := Lib.hid (HY2.out.grown hg hH)
         have HV3 := Lib.hid (HV2.out.grown5 hg hlt)
         have hlt3 := h1.lt
         obtain ⟨q3, hq3⟩ : ∃ q3, q3 = v3 / 23 := ⟨_, rfl⟩
         have t3 : Int.tdiv (v3 : Int) 23 = (q3 : Int) := by rw [Int.tdiv_eq_ediv_of_nonneg (by omega), hq3]; simp
         have k3 : q3 ≤ 1 := by omega
         have x3 : IntKind.i64.wrap (q3 : Int) = (q3 : Int) := IntWalk.i64_in _ (by omega)
         have y3 : IntKind.i64.wrap ((l.length : Int) + (q3 : Int)) = (l.length : Int) + (q3 : Int) := IntWalk.i64_in _ (by omega)
         have HP3 := Lib.hid (pick_any R n' c H (q + 1 + 1 + 1) (l.length + q3) A w3 h1 HY3.out hH (by omega) hn' (by omega) (by omega))
         rw [show ((l.length + q3 : Nat) : Int) = (l.length : Int) + (q3 : Int) by omega] at HP3
         clear h1 hg HB2 HP2 HY2 HV2 hq3 hv3 h3 hlt2)
      | (go_at_call 59
         refine HP3.out.mono ?_
         rintro e w4 ⟨⟨v4, hv4, rfl⟩, h1, hg, h3⟩
         have HB4 := Lib.hid (below_grown HB3.out hg hlt3)
         have HY4 := Lib.hid (HY3.out.grown hg hH)
         have HV4 := Lib.hid (HV3.out.grown5 hg hlt)
         have hlt4 := h1.lt
         have HP4 := Lib.hid (pick_any R n' c H (q + 1 + 1 + 1 + 1) 24 A w4 h1 HY4.out hH (by omega) hn' (by omega) (by omega))
         clear h1 hg HB3 HP3 HY3 HV3 h3 hlt3 t3 x3 y3)
      | (go_at_call 59
         refine HP4.out.mono ?_
         rintro e w5 ⟨⟨v5, hv5, rfl⟩, h1, hg, h3⟩
         have HB5 := Lib.hid (below_grown HB4.out hg hlt4)
         have HV5 := Lib.hid ((HV4.out.grown5 hg hlt).newR hl)
         obtain ⟨q5, hq5⟩ : ∃ q5, q5 = v5 / 23 := ⟨_, rfl⟩
         have t5 : Int.tdiv (v5 : Int) 23 = (q5 : Int) := by rw [Int.tdiv_eq_ediv_of_nonneg (by omega), hq5]; simp
         have k5 : q5 ≤ 1 := by omega
         have x5 : IntKind.i64.wrap (q5 : Int) = (q5 : Int) := IntWalk.i64_in _ (by omega)
         have y5 : IntKind.i64.wrap ((v4 : Int) - (q5 : Int)) = (v4 : Int) - (q5 : Int) := IntWalk.i64_in _ (by omega)
         clear h1 hg HB4 HP4 HY4 HV4 h3 hlt4))
    go_ret3
    exact ⟨_, l, _, _, rfl, HV5.out, ⟨hq.2, hl⟩, by rw [HRq.out]; exact HB5.out⟩
  by_cases ht : hasB l (vx : Int) = true
  rotate_left
  · rw [Bool.not_eq_true] at ht
    rw [ht] at HHA
    clear ht HCU
    go_wp2_with (first
      | (go_at_call 71; refine HHA.out.mono ?_; rintro e wz ⟨rfl, rfl⟩; clear HHA)
      | (go_at_call 59
         refine HP2.out.mono ?_
         rintro e w3 ⟨⟨v3, hv3, rfl⟩, h1, hg, h3⟩
         have HB3 := Lib.hid (below_grown HB2.out hg hlt2)
         have HY3 := Lib.hid (HY2.out.grown hg hH)
         have HV3 := Lib.hid (HV2.out.grown5 hg hlt)
         have hlt3 := h1.lt
         obtain ⟨q3, hq3⟩ : ∃ q3, q3 = v3 / 23 := ⟨_, rfl⟩
         have t3 : Int.tdiv (v3 : Int) 23 = (q3 : Int) := by rw [Int.tdiv_eq_ediv_of_nonneg (by omega), hq3]; simp
         have k3 : q3 ≤ 1 := by omega
         have x3 : IntKind.i64.wrap (q3 : Int) = (q3 : Int) := IntWalk.i64_in _ (by omega)
         have y3 : IntKind.i64.wrap ((l.length : Int) + (q3 : Int)) = (l.length : Int) + (q3 : Int) := IntWalk.i64_in _ (by omega)
         have HP3 := Lib.hid (pick_any R n' c H (q + 1 + 1 + 1) (l.length + q3) A w3 h1 HY3.out hH (by omega) hn' (by omega) (by omega))
         rw [show ((l.length + q3 : Nat) : Int) = (l.length : Int) + (q3 : Int) by omega] at HP3
         clear h1 hg HB2 HP2 HY2 HV2 hq3 hv3 h3 hlt2)
      | (go_at_call 59
         refine HP3.out.mono ?_
         rintro e w4 ⟨⟨v4, hv4, rfl⟩, h1, hg, h3⟩
         have HB4 := Lib.hid (below_grown HB3.out hg hlt3)
         have HY4 := Lib.hid (HY3.out.grown hg hH)
         have HV4 := Lib.hid (HV3.out.grown5 hg hlt)
         have hlt4 := h1.lt
         have HP4 := Lib.hid (pick_any R n' c H (q + 1 + 1 + 1 + 1) 24 A w4 h1 HY4.out hH (by omega) hn' (by omega) (by omega))
         clear h1 hg HB3 HP3 HY3 HV3 h3 hlt3 t3 x3 y3)
      | (go_at_call 59
         refine HP4.out.mono ?_
         rintro e w5 ⟨⟨v5, hv5, rfl⟩, h1, hg, h3⟩
         have HB5 := Lib.hid (below_grown HB4.out hg hlt4)
         have HV5 := Lib.hid ((HV4.out.grown5 hg hlt).newR hl)
         obtain ⟨q5, hq5⟩ : ∃ q5, q5 = v5 / 23 := ⟨_, rfl⟩
         have t5 : Int.tdiv (v5 : Int) 23 = (q5 : Int) := by rw [Int.tdiv_eq_ediv_of_nonneg (by omega), hq5]; simp
         have k5 : q5 ≤ 1 := by omega
         have x5 : IntKind.i64.wrap (q5 : Int) = (q5 : Int) := IntWalk.i64_in _ (by omega)
         have y5 : IntKind.i64.wrap ((v4 : Int) - (q5 : Int)) = (v4 : Int) - (q5 : Int) := IntWalk.i64_in _ (by omega)
         clear h1 hg HB4 HP4 HY4 HV4 h3 hlt4))
    go_ret3
    exact ⟨_, l, _, _, rfl, HV5.out, ⟨hq.2, hl⟩, by rw [HRq.out]; exact HB5.out⟩
  have hy := hasB_yes ht
  replace HCU := Lib.hid (HCU.out hy.2.2.2)
  rw [ht] at HHA
  have hcl : (cutL l (vx : Int)).length = l.length := cutL_length l _
  clear ht hy HP2
  generalize cutL l (vx : Int) = C at *
  have hC2 : 2 ≤ C.length := by omega
  have hC7 : C.length ≤ 7 := by omega
  go_wp2_with (go_at_call 71; refine HHA.out.mono ?_; rintro e wz ⟨rfl, rfl⟩; clear HHA)
  go_region_with (first
    | (go_at_call 72
       refine HCU.out.mono ?_
       rintro e w6 ⟨v6, rfl, ho, hb⟩
       obtain ⟨A6, n6, c6, rfl, hr6⟩ := ho.newR hC7
       have hln := hr6.len
       have h1n : 1 < n6 := by omega
       obtain ⟨b6, o6, rfl, hb6, hcs⟩ := hr6.at_ (by omega)
       have hc1 := hcs 1 h1n
       have HV6 := Lib.hid ((RowV.below5 (w := wy.drew) HV2.out hb).newR hl)
       have HB6 := Lib.hid (HB2.out.drew.trans (hb.mono (Nat.le_of_lt hlt2)))
       generalize C.getD 1 0 = y1 at *
       clear HCU HV2 HB2 hb ho hr6 hcs HY2))
  all_goals
    go_wp2
    go_ret3
    exact ⟨_, l, _, _, rfl, HV6.out, ⟨hq.2, hl⟩, by rw [HRq.out]; exact HB6.out⟩
end Go.Proofs.Ytamnacgclhaggaa
