/- The laws' drawers of the chapter of windings. -/
import Derived.Test.YtbfdbnminjhocaaDraw5
import Derived.Test.YtbfdbnminjhocaaDraw8
namespace Go.Proofs.Ytbfdbnminjhocaa
open Go.ChangeShapes Go.WideShapes Go.ChangeAt Go.RowKit

set_option maxHeartbeats 1000000 in
theorem drawWindFalls_any (n c H : Nat) (A : Option Addr) (w : World) (hb : Byt w H A n) (hH : H ≤ w.heap.size) (hnc : n ≤ c) (hc : c ≤ 9223372036854775807) :
    Calls Try.prog 17 #[.slice A n c] w fun e w' => ∃ v l, e = .returned v ∧ NewR w' v l ∧ (2 ≤ l.length ∧ l.length ≤ 7) ∧ Below w.heap.size w w' := by
  have HP := Lib.hid (one91_any n c H A w hb hH hnc hc)
  clear hb
  go_enter Try.func17, Try.ntmps17
  go_wp2_with fail
  refine HP.out.mono ?_
  rintro e w2 ⟨v, l, rfl, hv, hl, hb⟩
  have HV := Lib.hid hv
  have HB := Lib.hid hb
  clear hv hb HP
  go_wp2
  go_ret
  exact ⟨v, l, rfl, HV.out, hl, HB.out⟩
set_option maxHeartbeats 1000000 in
theorem drawWindPath_any (n c H : Nat) (A : Option Addr) (w : World) (hb : Byt w H A n) (hH : H ≤ w.heap.size) (hnc : n ≤ c) (hc : c ≤ 9223372036854775807) :
    Calls Try.prog 31 #[.slice A n c] w fun e w' => ∃ v v' l l', e = .returned (.tuple #[v, v']) ∧ NewR w' v l ∧ NewR w' v' l' ∧ (l.length ≤ 7 ∧ l'.length ≤ 7) ∧ Below w.heap.size w w' := by
  have HP := Lib.hid (pair92_any n c H A w hb hH hnc hc)
  clear hb
  go_enter Try.func31, Try.ntmps31
  go_wp2_with fail
  refine HP.out.mono ?_
  rintro e w2 ⟨v, v', l, l', rfl, hv, hv', hll, hb⟩
  have HV := Lib.hid (hv.newR hll.1)
  have HV' := Lib.hid (hv'.newR hll.2)
  have HB := Lib.hid hb
  clear hv hv' hb HP
  go_wp2
  go_ret2
  exact ⟨v, v', l, l', rfl, HV.out, HV'.out, hll, HB.out⟩

set_option maxRecDepth 10000 in
set_option maxHeartbeats 2000000 in
theorem number92_any (n c H : Nat) (A : Option Addr) (w : World) (hb : Byt w H A n) (hH : H ≤ w.heap.size) (hnc : n ≤ c) (hc : c ≤ 9223372036854775807) :
    Calls Try.prog 66 #[.slice A n c] w fun e w' => ∃ x : Int, e = .returned (.int .i64 x) ∧ (-20 ≤ x ∧ x ≤ 20) ∧ Below w.heap.size w w' := by
  have HOP := Lib.hid (openS_any n c H A w hb hH hnc hc)
  clear hb
  go_enter Try.func66, Try.ntmps66
  go_wp2_with fail
  refine HOP.out.mono ?_
  rintro e w1 ⟨rfl, ⟨n', hn', h1, h2⟩, hb1⟩
  have HB1 := Lib.hid hb1
  have HY1 := Lib.hid h2
  have hlt := h1.lt
  generalize hR : w.heap.size = R at *
  have HRq := Lib.hid hR
  have HP1 := Lib.hid (pick_any R n' c H 0 5 A w1 h1 HY1.out hH (by omega) hn' (by omega) (by omega))
  clear h1 h2 hb1 HOP hR
  go_wp2_with (first
    | (go_at_call 79
       refine HP1.out.mono ?_
       rintro e w2 ⟨⟨v1, hv1, rfl⟩, h1, hg, h3⟩
       have HB2 := Lib.hid (below_grown HB1.out hg hlt)
       have HY2 := Lib.hid (HY1.out.grown hg hH)
       have hlt2 := h1.lt
       have a1 : IntKind.i64.wrap (3 + (v1 : Int)) = 3 + (v1 : Int) := IntWalk.i64_in _ (by omega)
       have HP2 := Lib.hid (pick_any R n' c H (0 + 1) 24 A w2 h1 HY2.out hH (by omega) hn' (by omega) (by omega))
       clear h1 hg HB1 HP1 HY1 h3)
    | (go_at_call 79
       refine HP2.out.mono ?_
       rintro e w3 ⟨⟨v2, hv2, rfl⟩, h1, hg, h3⟩
       have HB3 := Lib.hid (below_grown HB2.out hg hlt2)
       have HY3 := Lib.hid (HY2.out.grown hg hH)
       have hlt3 := h1.lt
       obtain ⟨q2, k2, t2⟩ := tdiv_one v2 23 (by omega)
       have t2' : Int.tdiv (v2 : Int) 23 = (q2 : Int) := t2
       have x2 : IntKind.i64.wrap (q2 : Int) = (q2 : Int) := IntWalk.i64_in _ (by omega)
       have y2 : IntKind.i64.wrap ((q2 : Int) * 5) = (q2 : Int) * 5 := IntWalk.i64_in _ (by omega)
       have s2 : IntKind.i64.wrap (3 + (v1 : Int) + (q2 : Int) * 5) = 3 + (v1 : Int) + (q2 : Int) * 5 := IntWalk.i64_in _ (by omega)
       have HP3 := Lib.hid (pick_any R n' c H (0 + 1 + 1) 24 A w3 h1 HY3.out hH (by omega) hn' (by omega) (by omega))
       clear h1 hg HB2 HP2 HY2 h3 t2)
    | (go_at_call 79
       refine HP3.out.mono ?_
       rintro e w4 ⟨⟨v3, hv3, rfl⟩, h1, hg, h3⟩
       have HB4 := Lib.hid (below_grown HB3.out hg hlt3)
       obtain ⟨q3, k3, t3⟩ := tdiv_one v3 23 (by omega)
       have t3' : Int.tdiv (v3 : Int) 23 = (q3 : Int) := t3
       have x3 : IntKind.i64.wrap (q3 : Int) = (q3 : Int) := IntWalk.i64_in _ (by omega)
       have y3 : IntKind.i64.wrap ((q3 : Int) * 5) = (q3 : Int) * 5 := IntWalk.i64_in _ (by omega)
       have s3 : IntKind.i64.wrap (3 + (v1 : Int) + (q2 : Int) * 5 - (q3 : Int) * 5) = 3 + (v1 : Int) + (q2 : Int) * 5 - (q3 : Int) * 5 := IntWalk.i64_in _ (by omega)
       clear h1 hg HB3 HP3 HY3 h3 t3))
  go_ret
  exact ⟨_, rfl, by omega, by rw [HRq.out]; exact HB4.out⟩
set_option maxHeartbeats 1000000 in
theorem drawWindCounts_any (n c H : Nat) (A : Option Addr) (w : World) (hb : Byt w H A n) (hH : H ≤ w.heap.size) (hnc : n ≤ c) (hc : c ≤ 9223372036854775807) :
    Calls Try.prog 22 #[.slice A n c] w fun e w' => ∃ x : Int, e = .returned (.int .i64 x) ∧ (-20 ≤ x ∧ x ≤ 20) ∧ Below w.heap.size w w' := by
  have HP := Lib.hid (number92_any n c H A w hb hH hnc hc)
  clear hb
  go_enter Try.func22, Try.ntmps22
  go_wp2_with fail
  refine HP.out.mono ?_
  rintro e w2 ⟨x, rfl, hl, hb⟩
  have HB := Lib.hid hb
  clear hb HP
  go_wp2
  go_ret
  exact ⟨x, rfl, hl, HB.out⟩
set_option maxHeartbeats 1000000 in
theorem drawWindSums_any (n c H : Nat) (A : Option Addr) (w : World) (hb : Byt w H A n) (hH : H ≤ w.heap.size) (hnc : n ≤ c) (hc : c ≤ 9223372036854775807) :
    Calls Try.prog 29 #[.slice A n c] w fun e w' => ∃ x : Int, e = .returned (.int .i64 x) ∧ (-20 ≤ x ∧ x ≤ 20) ∧ Below w.heap.size w w' := by
  have HP := Lib.hid (number92_any n c H A w hb hH hnc hc)
  clear hb
  go_enter Try.func29, Try.ntmps29
  go_wp2_with fail
  refine HP.out.mono ?_
  rintro e w2 ⟨x, rfl, hl, hb⟩
  have HB := Lib.hid hb
  clear hb HP
  go_wp2
  go_ret
  exact ⟨x, rfl, hl, HB.out⟩
set_option maxRecDepth 10000 in
set_option maxHeartbeats 2000000 in
theorem drawWindMost_any (n c H : Nat) (A : Option Addr) (w : World) (hb : Byt w H A n) (hH : H ≤ w.heap.size) (hnc : n ≤ c) (hc : c ≤ 9223372036854775807) :
    Calls Try.prog 37 #[.slice A n c] w fun e w' => ∃ v l x, e = .returned (.tuple #[v, .int .i64 x]) ∧ NewR w' v l ∧ (2 ≤ l.length ∧ l.length ≤ 7) ∧ Below w.heap.size w w' := by
  have HOP := Lib.hid (openS_any n c H A w hb hH hnc hc)
  clear hb
  go_enter Try.func37, Try.ntmps37
  go_wp2_with fail
  refine HOP.out.mono ?_
  rintro e w1 ⟨rfl, ⟨n', hn', h1, h2⟩, hb1⟩
  have HRG := Lib.hid (ring91_any w.heap.size n' c H 0 6 A w1 h1 h2 hH (by omega) hn' (by omega) (by omega))
  have HB1 := Lib.hid hb1
  have HY1 := Lib.hid h2
  have hlt := h1.lt
  generalize hR : w.heap.size = R at *
  have HRq := Lib.hid hR
  clear h1 h2 hb1 HOP hR
  go_wp2_with fail
  refine HRG.out.mono ?_
  rintro e w2 ⟨v, l, q, rfl, hv, ⟨hl, h1, hq⟩, hg⟩
  have HB2 := Lib.hid (below_grown HB1.out hg hlt)
  have HY2 := Lib.hid (HY1.out.grown hg hH)
  obtain ⟨Av, cv, ev, hcv1, hcv2⟩ := hv.2
  subst ev
  have HV2 := Lib.hid hv
  have hlt2 := h1.lt
  have HP2 := Lib.hid (pick_any R n' c H q 24 A w2 h1 HY2.out hH (by omega) hn' (by omega) (by omega))
  clear hv h1 hg HB1 HRG HY1
  go_wp2_with (first
    | (go_at_call 79
       refine HP2.out.mono ?_
       rintro e w3 ⟨⟨v3, hv3, rfl⟩, h1, hg, h3⟩
       have HB3 := Lib.hid (below_grown HB2.out hg hlt2)
       have HY3 := Lib.hid (HY2.out.grown hg hH)
       have HV3 := Lib.hid (HV2.out.grown5 hg hlt)
       have hlt3 := h1.lt
       obtain ⟨q3, hq3⟩ : ∃ q3, q3 = v3 / 23 := ⟨_, rfl⟩
       have t3 : Int.tdiv (v3 : Int) 23 = (q3 : Int) := by rw [Int.tdiv_eq_ediv_of_nonneg (by omega), hq3]; simp
       have k3 : q3 ≤ 1 := by omega
       have x3 : IntKind.i64.wrap (q3 : Int) = (q3 : Int) := IntWalk.i64_in _ (by omega)
       have y3 : IntKind.i64.wrap ((l.length : Int) + (q3 : Int)) = (l.length : Int) + (q3 : Int) := IntWalk.i64_in _ (by omega)
       have HP3 := Lib.hid (pick_any R n' c H (q + 1) (l.length + q3) A w3 h1 HY3.out hH (by omega) hn' (by omega) (by omega))
       rw [show ((l.length + q3 : Nat) : Int) = (l.length : Int) + (q3 : Int) by omega] at HP3
       clear h1 hg HB2 HP2 HY2 HV2 hq3 hv3 h3 hlt2)
    | (go_at_call 79
       refine HP3.out.mono ?_
       rintro e w4 ⟨⟨v4, hv4, rfl⟩, h1, hg, h3⟩
       have HB4 := Lib.hid (below_grown HB3.out hg hlt3)
       have HY4 := Lib.hid (HY3.out.grown hg hH)
       have HV4 := Lib.hid (HV3.out.grown5 hg hlt)
       have hlt4 := h1.lt
       have HP4 := Lib.hid (pick_any R n' c H (q + 1 + 1) 24 A w4 h1 HY4.out hH (by omega) hn' (by omega) (by omega))
       clear h1 hg HB3 HP3 HY3 HV3 h3 hlt3 t3 x3 y3)
    | (go_at_call 79
       refine HP4.out.mono ?_
       rintro e w5 ⟨⟨v5, hv5, rfl⟩, h1, hg, h3⟩
       have HB5 := Lib.hid (below_grown HB4.out hg hlt4)
       have HV5 := Lib.hid ((HV4.out.grown5 hg hlt).newR hl)
       obtain ⟨q5, hq5⟩ : ∃ q5, q5 = v5 / 23 := ⟨_, rfl⟩
       have t5 : Int.tdiv (v5 : Int) 23 = (q5 : Int) := by rw [Int.tdiv_eq_ediv_of_nonneg (by omega), hq5]; simp
       have k5 : q5 ≤ 1 := by omega
       have x5 : IntKind.i64.wrap (q5 : Int) = (q5 : Int) := IntWalk.i64_in _ (by omega)
       have y5 : IntKind.i64.wrap ((v4 : Int) - (q5 : Int)) = (v4 : Int) - (q5 : Int) := IntWalk.i64_in _ (by omega)
       clear h1 hg HB4 HP4 HY4 HV4 h3 hlt4))
  go_ret2
  exact ⟨_, l, _, rfl, HV5.out, ⟨hq.2, hl⟩, by rw [HRq.out]; exact HB5.out⟩
set_option maxRecDepth 10000 in
set_option maxHeartbeats 4000000 in
theorem drawWindBetween_any (n c H : Nat) (A : Option Addr) (w : World) (hb : Byt w H A n) (hH : H ≤ w.heap.size) (hnc : n ≤ c) (hc : c ≤ 9223372036854775807) :
    Calls Try.prog 34 #[.slice A n c] w fun e w' => ∃ v v' v'' l l' l'', e = .returned (.tuple #[v, v', v'']) ∧ NewR w' v l ∧ NewR w' v' l' ∧ NewR w' v'' l'' ∧ Below w.heap.size w w' := by
  have HOP := Lib.hid (openS2_any n c H A w hb hH hnc hc)
  clear hb
  go_enter Try.func34, Try.ntmps34
  go_wp2_with fail
  refine HOP.out.mono ?_
  rintro e w1 ⟨rfl, ⟨n', hn', h1, h2⟩, hz, hb1⟩
  have HT := Lib.hid (two92_any w.heap.size n' c H A w1 h1 h2 hH hn' hz)
  have HB1 := Lib.hid hb1
  have HY1 := Lib.hid h2
  have hlt := h1.lt
  generalize hR : w.heap.size = R at *
  have HRq := Lib.hid hR
  clear h1 h2 hb1 HOP hR
  go_wp2_with fail
  refine HT.out.mono ?_
  rintro e w2 ⟨v, v', l, l', q, rfl, hv, hv', hll, ⟨h1, hq⟩, hb⟩
  obtain ⟨Av, cv, ev, hcv1, hcv2⟩ := hv.2
  subst ev
  have HV2 := Lib.hid hv
  have HV2' := Lib.hid hv'
  have HB2 := Lib.hid (HB1.out.trans hb)
  have HY2 := Lib.hid (HY1.out.below (hb.mono hH))
  have hlt2 := h1.lt
  have HP2 := Lib.hid (pick_any R n' c H q 24 A w2 h1 HY2.out hH (by omega) hn' (by omega) (by omega))
  obtain ⟨ml, hml, hml7⟩ : ∃ ml : Nat, max 3 (l.length : Int) = (ml : Int) ∧ 3 ≤ ml ∧ ml ≤ 7 := ⟨max 3 l.length, by omega, by omega, by omega⟩
  clear hv hv' h1 hb HB1 HT HY1 hz
  go_wp2_with fail
  refine HP2.out.mono ?_
  rintro e w3 ⟨⟨v3, hv3, rfl⟩, h1, hg, hz3⟩
  have HB3 := Lib.hid (below_grown HB2.out hg hlt2)
  have HY3 := Lib.hid (HY2.out.grown hg hH)
  have HV3 := Lib.hid (HV2.out.grown5 hg (by omega))
  have HV3' := Lib.hid (HV2'.out.grown5 hg (by omega))
  have hlt3 := h1.lt
  have HR3 := Lib.hid h1
  clear h1 hg HB2 HY2 HV2 HV2' HP2 hlt2
  by_cases e0 : v3 = 0
  · have hb0 : ((v3 : Int) == 0) = true := by simp; omega
    have HC := Lib.hid (ring91_any R n' c H (q + 1) 7 A w3 HR3.out HY3.out hH (by omega) hn' (by omega) (by omega))
    clear e0 hv3
    go_wp2_with fail
    refine HC.out.mono ?_
    rintro e w4 ⟨v4, l4, q4, rfl, hv4, ⟨hl4, _, _⟩, hg⟩
    have HA := Lib.hid ((HV3.out.grown5 hg (by omega)).newR hll.1)
    have HA' := Lib.hid ((HV3'.out.grown5 hg (by omega)).newR hll.2)
    have HA'' := Lib.hid (hv4.newR hl4)
    have HB4 := Lib.hid (below_grown HB3.out hg hlt3)
    clear hv4 hg HC HB3 HV3 HV3'
    go_wp2
    go_ret3
    exact ⟨_, _, _, l, l', l4, rfl, HA.out, HA'.out, HA''.out, by rw [HRq.out]; exact HB4.out⟩
  · have hb0 : ((v3 : Int) == 0) = false := by simp; omega
    have HC := Lib.hid (of91_any R n' c H (q + 1) ml A w3 HR3.out HY3.out hH (by omega) hn' (by omega) (by omega))
    clear e0 hv3
    go_wp2_with fail
    refine HC.out.mono ?_
    rintro e w4 ⟨v4, l4, q4, rfl, hv4, ⟨hl4, _, _⟩, hg⟩
    have HA := Lib.hid ((HV3.out.grown5 hg (by omega)).newR hll.1)
    have HA' := Lib.hid ((HV3'.out.grown5 hg (by omega)).newR hll.2)
    have HA'' := Lib.hid (hv4.newR (by omega))
    have HB4 := Lib.hid (below_grown HB3.out hg hlt3)
    clear hv4 hg HC HB3 HV3 HV3'
    go_wp2
    go_ret3
    exact ⟨_, _, _, l, l', l4, rfl, HA.out, HA'.out, HA''.out, by rw [HRq.out]; exact HB4.out⟩
end Go.Proofs.Ytbfdbnminjhocaa
