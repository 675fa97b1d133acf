/- PairSame of the program. -/
import Derived.Test.YthffcmoklhicmaaApp
import Derived.Test.YthffcmoklhicmaaEqP
import Derived.Test.YthffcmoklhicmaaPsS
import Derived.Deep.RegionHeld3
namespace Go.Proofs.Ythffcmoklhicmaa
open Go.ChangeShapes Go.WideShapes Go.ChangeAt Go.RowKit Go.Shelf

abbrev prtF (pb rb : Nat) : Value := .func (.func 100) #[] #[.pointer (some ⟨pb, 0, none⟩), .pointer (some ⟨rb, 0, none⟩)]

set_option maxHeartbeats 1000000 in
theorem col_any (pb rb B0 : Nat) (l : List Int) (ht : Tell l) (v : Value) (w : World) (hpb : pb < w.heap.size) (hrb : rb < w.heap.size) (hP : w.cell? ⟨pb, 0, none⟩ = some v) (hrow : RowN w B0 65 2 v (pairsL l.length)) (hrl : ∀ i, v.ownBlock = some i → i < w.heap.size) (harr : Arr w rb (padR l)) :
    Calls Try.prog 87 #[.func (.func 100) #[] #[.pointer (some ⟨pb, 0, none⟩), .pointer (some ⟨rb, 0, none⟩)]] w fun e w' => ∃ u, e = .returned u ∧ RowN w' w.heap.size 67 4 u (allP l) ∧ Below w.heap.size w w' := by
  have HA := Lib.hid (app_any pb rb B0 l ht v w hpb hrb hP hrow hrl harr)
  clear ht hP hrow hrl harr
  obtain ⟨Q, hQ⟩ : ∃ Q, Q = allP l := ⟨_, rfl⟩
  rw [← hQ] at HA ⊢
  clear hQ
  go_enter Try.func87, Try.ntmps87
  go_wp2_with fail
  refine HA.out.mono ?_
  rintro e w2 ⟨u, rfl, hrow, hb⟩
  have HR := Lib.hid hrow
  have HB := Lib.hid hb
  clear hrow hb HA
  go_wp2
  go_ret
  exact ⟨u, rfl, HR.out, HB.out⟩
/-! psI -/
set_option maxRecDepth 10000 in
set_option maxHeartbeats 4000000 in
theorem psI_any (A0 : Option Addr) (n0 c0 : Nat) (A1 : Option Addr) (n1 c1 H : Nat) (l0 l1 : List Int) (w : World) (h0 : Rd w H A0 n0 l0) (h1 : Rd w H A1 n1 l1) (hH : H ≤ w.heap.size) (hn0 : n0 ≤ 1048576) (hn1 : n1 ≤ 1048576) (hnc0 : n0 ≤ c0) (hcm0 : c0 ≤ 9223372036854775807) (hnc1 : n1 ≤ c1) (hcm1 : c1 ≤ 9223372036854775807) :
    Calls Try.prog 46 #[.slice A0 n0 c0, .slice A1 n1 c1] w fun e w' => e = .returned (.bool (psB l0 l1)) ∧ Below w.heap.size w w' := by
  have HR0 := Lib.hid (readR_any A0 n0 c0 H l0 w h0 hH hn0 hnc0 hcm0)
  have HR1 := Lib.hid (fun V (hV : Below w.heap.size w V) => readR_any A1 n1 c1 H l1 V (h1.below (hV.mono hH)) (Nat.le_trans hH hV.size) hn1 hnc1 hcm1)
  have H70 := Lib.hid (ringP_length l0)
  have H71 := Lib.hid (ringP_length l1)
  have L0 := h0.len
  have L1 := h1.len
  clear h0 h1
  by_cases hr0 : Ring l0
  rotate_left
  · rw [ps_no (fun hh => hr0 hh.1)]
    rw [ring_no hr0] at HR0
    generalize ringP l0 = P0 at *
    generalize ringP l1 = P1 at *
    generalize ringB l1 = b1 at *
    clear hr0 L0 L1
    go_enter Try.func46, Try.ntmps46
    go_wp2_with fail
    refine HR0.out.mono ?_
    rintro e W1 ⟨rfl, hb1⟩
    have HA := Lib.hid (new_ring W1)
    have HB1 := Lib.hid hb1
    have hs1 := hb1.size
    clear hb1 HR0
    go_wp2_with (refine store_ring rfl _ _ rfl W1.heap.size zero7 P0 rfl H70.out rfl rfl HA ?_; intro w2 HA2 hg2 hs2)
    have hb2 : Below w.heap.size w w2 := (HB1.out.alloc hs1 _).grown hg2 (by simp; omega) (by simp; omega)
    have HB2 := Lib.hid hb2
    clear hs2 hg2 HA HB1
    refine (HR1.out w2 hb2).mono ?_
    rintro e W3 ⟨rfl, hb3⟩
    have HA3 := Lib.hid (HA2.out.below hb3 HA2.out.lt)
    have hr0 := HA3.out.lt
    have HB3 := Lib.hid (HB2.out.trans (hb3.mono HB2.out.size))
    have hs3 := HB3.out.size
    have HNR := Lib.hid (new_ring W3)
    have HA5 := Lib.hid (HA3.out.alloc (.cells #[.int .i64 0, .int .i64 0, .int .i64 0, .int .i64 0, .int .i64 0, .int .i64 0, .int .i64 0] 53))
    clear hb2 hb3 HA2 HA3 HB2 HR1
    go_wp2_with (refine store_ring rfl _ _ rfl W3.heap.size zero7 P1 rfl H71.out rfl rfl HNR ?_; intro w4 HA4 hg4 hs4)
    go_ret
    exact ⟨rfl, (HB3.out.alloc hs3 _).grown hg4 (by simp; omega) (by simp; omega)⟩
  by_cases hr1 : Ring l1
  rotate_left
  · rw [ps_no (fun hh => hr1 hh.2.1)]
    rw [ring_no hr1] at HR1
    rw [ring_yes hr0] at HR0
    generalize ringP l0 = P0 at *
    generalize ringP l1 = P1 at *
    clear hr0 hr1 L0 L1
    go_enter Try.func46, Try.ntmps46
    go_wp2_with fail
    refine HR0.out.mono ?_
    rintro e W1 ⟨rfl, hb1⟩
    have HA := Lib.hid (new_ring W1)
    have HB1 := Lib.hid hb1
    have hs1 := hb1.size
    clear hb1 HR0
    go_wp2_with (refine store_ring rfl _ _ rfl W1.heap.size zero7 P0 rfl H70.out rfl rfl HA ?_; intro w2 HA2 hg2 hs2)
    have hb2 : Below w.heap.size w w2 := (HB1.out.alloc hs1 _).grown hg2 (by simp; omega) (by simp; omega)
    have HB2 := Lib.hid hb2
    clear hs2 hg2 HA HB1
    refine (HR1.out w2 hb2).mono ?_
    rintro e W3 ⟨rfl, hb3⟩
    have HA3 := Lib.hid (HA2.out.below hb3 HA2.out.lt)
    have hr0 := HA3.out.lt
    have HB3 := Lib.hid (HB2.out.trans (hb3.mono HB2.out.size))
    have hs3 := HB3.out.size
    have HNR := Lib.hid (new_ring W3)
    have HA5 := Lib.hid (HA3.out.alloc (.cells #[.int .i64 0, .int .i64 0, .int .i64 0, .int .i64 0, .int .i64 0, .int .i64 0, .int .i64 0] 53))
    clear hb2 hb3 HA2 HA3 HB2 HR1
    go_wp2_with (refine store_ring rfl _ _ rfl W3.heap.size zero7 P1 rfl H71.out rfl rfl HNR ?_; intro w4 HA4 hg4 hs4)
    go_ret
    exact ⟨rfl, (HB3.out.alloc hs3 _).grown hg4 (by simp; omega) (by simp; omega)⟩
  rw [ring_yes hr1] at HR1
  rw [ring_yes hr0] at HR0
  by_cases hlen : n0 = n1
  rotate_left
  · rw [ps_no (fun hh => hlen (by rw [← L0, ← L1]; exact hh.2.2.1))]
    generalize ringP l0 = P0 at *
    generalize ringP l1 = P1 at *
    clear hr0 hr1 L0 L1
    go_enter Try.func46, Try.ntmps46
    go_wp2_with fail
    refine HR0.out.mono ?_
    rintro e W1 ⟨rfl, hb1⟩
    have HA := Lib.hid (new_ring W1)
    have HB1 := Lib.hid hb1
    have hs1 := hb1.size
    clear hb1 HR0
    go_wp2_with (refine store_ring rfl _ _ rfl W1.heap.size zero7 P0 rfl H70.out rfl rfl HA ?_; intro w2 HA2 hg2 hs2)
    have hb2 : Below w.heap.size w w2 := (HB1.out.alloc hs1 _).grown hg2 (by simp; omega) (by simp; omega)
    have HB2 := Lib.hid hb2
    clear hs2 hg2 HA HB1
    refine (HR1.out w2 hb2).mono ?_
    rintro e W3 ⟨rfl, hb3⟩
    have HA3 := Lib.hid (HA2.out.below hb3 HA2.out.lt)
    have hr0 := HA3.out.lt
    have HB3 := Lib.hid (HB2.out.trans (hb3.mono HB2.out.size))
    have hs3 := HB3.out.size
    have HNR := Lib.hid (new_ring W3)
    have HA5 := Lib.hid (HA3.out.alloc (.cells #[.int .i64 0, .int .i64 0, .int .i64 0, .int .i64 0, .int .i64 0, .int .i64 0, .int .i64 0] 53))
    clear hb2 hb3 HA2 HA3 HB2 HR1
    go_wp2_with (refine store_ring rfl _ _ rfl W3.heap.size zero7 P1 rfl H71.out rfl rfl HNR ?_; intro w4 HA4 hg4 hs4)
    go_ret
    exact ⟨rfl, (HB3.out.alloc hs3 _).grown hg4 (by simp; omega) (by simp; omega)⟩
  subst hlen
  by_cases h4 : 4 ≤ n0
  rotate_left
  · rw [ps_no (fun hh => h4 (by rw [← L0]; exact hh.2.2.2))]
    generalize ringP l0 = P0 at *
    generalize ringP l1 = P1 at *
    clear hr0 hr1 L0 L1
    go_enter Try.func46, Try.ntmps46
    go_wp2_with fail
    refine HR0.out.mono ?_
    rintro e W1 ⟨rfl, hb1⟩
    have HA := Lib.hid (new_ring W1)
    have HB1 := Lib.hid hb1
    have hs1 := hb1.size
    clear hb1 HR0
    go_wp2_with (refine store_ring rfl _ _ rfl W1.heap.size zero7 P0 rfl H70.out rfl rfl HA ?_; intro w2 HA2 hg2 hs2)
    have hb2 : Below w.heap.size w w2 := (HB1.out.alloc hs1 _).grown hg2 (by simp; omega) (by simp; omega)
    have HB2 := Lib.hid hb2
    clear hs2 hg2 HA HB1
    refine (HR1.out w2 hb2).mono ?_
    rintro e W3 ⟨rfl, hb3⟩
    have HA3 := Lib.hid (HA2.out.below hb3 HA2.out.lt)
    have hr0 := HA3.out.lt
    have HB3 := Lib.hid (HB2.out.trans (hb3.mono HB2.out.size))
    have hs3 := HB3.out.size
    have HNR := Lib.hid (new_ring W3)
    have HA5 := Lib.hid (HA3.out.alloc (.cells #[.int .i64 0, .int .i64 0, .int .i64 0, .int .i64 0, .int .i64 0, .int .i64 0, .int .i64 0] 53))
    clear hb2 hb3 HA2 HA3 HB2 HR1
    go_wp2_with (refine store_ring rfl _ _ rfl W3.heap.size zero7 P1 rfl H71.out rfl rfl HNR ?_; intro w4 HA4 hg4 hs4)
    go_ret
    exact ⟨rfl, (HB3.out.alloc hs3 _).grown hg4 (by simp; omega) (by simp; omega)⟩
  · rw [ps_yes ⟨hr0, hr1, by rw [L0, L1], by rw [L0]; exact h4⟩]
    have e0 : ringP l0 = padR l0 := by rw [ringP, if_pos hr0]
    have e1 : ringP l1 = padR l1 := by rw [ringP, if_pos hr1]
    have T0 := Lib.hid hr0.1
    have T1 := Lib.hid hr1.1
    have HPT0 := Lib.hid (fun V => partings_any l0 V T0.out)
    have HPT1 := Lib.hid (fun V => partings_any l1 V T1.out)
    have HC0 := Lib.hid (fun pb rb B0 v V => col_any pb rb B0 l0 T0.out v V)
    have HC1 := Lib.hid (fun pb rb B0 v V => col_any pb rb B0 l1 T1.out v V)
    have HQ0 := Lib.hid (show (allP l0).length ≤ 3000 by have := allP_len l0 T0.out.2.1; omega)
    rw [e0] at HR0 H70
    rw [e1] at HR1 H71
    obtain ⟨a0, a1, a2, a3, a4, a5, a6, hP0⟩ := seven (padR_length l0 T0.out.2.1)
    obtain ⟨b0, b1, b2, b3, b4, b5, b6, hP1⟩ := seven (padR_length l1 T1.out.2.1)
    unfold agp at HPT0 HPT1
    simp only [hP0] at HPT0 HC0 HR0 H70
    simp only [hP1] at HPT1 HC1 HR1 H71
    simp only [ints, List.map_cons, List.map_nil] at HPT0 HPT1 HR0 HR1
    clear e0 e1 hP0 hP1 T0 T1 hr0 hr1 L0 L1
    generalize allP l0 = Q0 at *
    generalize allP l1 = Q1 at *
    generalize pairsL l0.length = Z0 at *
    generalize pairsL l1.length = Z1 at *
    go_enter Try.func46, Try.ntmps46
    go_wp2_with fail
    refine HR0.out.mono ?_
    rintro e W1 ⟨rfl, hb1⟩
    have HA := Lib.hid (new_ring W1)
    have HB1 := Lib.hid hb1
    have hs1 := hb1.size
    clear hb1 HR0
    go_wp2_with (refine store_ring rfl _ _ rfl W1.heap.size zero7 [a0, a1, a2, a3, a4, a5, a6] rfl H70.out rfl rfl HA ?_; intro w2 HA2 hg2 hs2)
    have hb2 : Below w.heap.size w w2 := (HB1.out.alloc hs1 _).grown hg2 (by simp; omega) (by simp; omega)
    have HB2 := Lib.hid hb2
    clear hs2 hg2 HA HB1
    refine (HR1.out w2 hb2).mono ?_
    rintro e W3 ⟨rfl, hb3⟩
    have HA3 := Lib.hid (HA2.out.below hb3 HA2.out.lt)
    have hr0 := HA3.out.lt
    have HB3 := Lib.hid (HB2.out.trans (hb3.mono HB2.out.size))
    have hs3 := HB3.out.size
    have HNR := Lib.hid (new_ring W3)
    have HA5 := Lib.hid (HA3.out.alloc (.cells #[.int .i64 0, .int .i64 0, .int .i64 0, .int .i64 0, .int .i64 0, .int .i64 0, .int .i64 0] 53))
    clear hb2 hb3 HA2 HA3 HB2 HR1
    go_wp2_with (refine store_ring rfl _ _ rfl W3.heap.size zero7 [b0, b1, b2, b3, b4, b5, b6] rfl H71.out rfl rfl HNR ?_; intro w4 HA4 hg4 hs4)
    have HB4 := Lib.hid ((HB3.out.alloc hs3 _).grown hg4 (by simp; omega) (by simp; omega))
    have HA6 := Lib.hid (HA5.out.grown hg4 (by omega))
    have HK := Lib.hid (fun (V : World) (hV : Below w4.heap.size w4 V) => (⟨cells7 (HA6.out.below hV HA6.out.lt), cells7 (HA4.out.below hV HA4.out.lt)⟩ : _ ∧ _))
    have HST := Lib.hid (fun (V V' : World) (h1 : Below w4.heap.size w4 V) (h2 : Below V.heap.size V V') => h1.trans (h2.mono h1.size))
    clear hs3 hr0 hs1 HA4 HA5 HA6 hg4 hs4 HNR HB3
    generalize W1.heap.size = r0 at *
    generalize W3.heap.size = r1 at *
    go_region_held3 (fun V => ((V.cell? ⟨r0, 0, none⟩ = some (.int .i64 a0) ∧ V.cell? ⟨r0, 1, none⟩ = some (.int .i64 a1) ∧ V.cell? ⟨r0, 2, none⟩ = some (.int .i64 a2) ∧ V.cell? ⟨r0, 3, none⟩ = some (.int .i64 a3) ∧ V.cell? ⟨r0, 4, none⟩ = some (.int .i64 a4) ∧ V.cell? ⟨r0, 5, none⟩ = some (.int .i64 a5) ∧ V.cell? ⟨r0, 6, none⟩ = some (.int .i64 a6)) ∧ (V.cell? ⟨r1, 0, none⟩ = some (.int .i64 b0) ∧ V.cell? ⟨r1, 1, none⟩ = some (.int .i64 b1) ∧ V.cell? ⟨r1, 2, none⟩ = some (.int .i64 b2) ∧ V.cell? ⟨r1, 3, none⟩ = some (.int .i64 b3) ∧ V.cell? ⟨r1, 4, none⟩ = some (.int .i64 b4) ∧ V.cell? ⟨r1, 5, none⟩ = some (.int .i64 b5) ∧ V.cell? ⟨r1, 6, none⟩ = some (.int .i64 b6))))
      (first
        | exact HK.out _ (Below.refl _ _).drew
        | exact HK.out _ HB5.out
        | exact HK.out _ HB6.out
        | exact HK.out _ HB7.out
        | exact HK.out _ HB8.out
        | exact HK.out _ (below_drewN HB8.out _))
      (first
        | (go_at_call_of 63 (Value.agg #[Value.int IntKind.i64 a0, Value.int IntKind.i64 a1, Value.int IntKind.i64 a2, Value.int IntKind.i64 a3, Value.int IntKind.i64 a4, Value.int IntKind.i64 a5, Value.int IntKind.i64 a6]); refine (HPT0.out _).mono ?_; rintro e w5 ⟨pb0, v0, rfl, hp5, hq5, hpc5, hrow5, harr5, hb5⟩; have HB5 := Lib.hid (HST.out _ _ (Below.refl _ w4).drew hb5); have F5 := Lib.hid (⟨hq5, harr5.lt, hpc5, hrow5, (fun i h => (hrow5.lt i h).2), harr5⟩ : _ ∧ _ ∧ _ ∧ _ ∧ _ ∧ _); clear hp5 hq5 hpc5 hrow5 harr5 hb5)
        | (go_at_call_of 63 (Value.agg #[Value.int IntKind.i64 b0, Value.int IntKind.i64 b1, Value.int IntKind.i64 b2, Value.int IntKind.i64 b3, Value.int IntKind.i64 b4, Value.int IntKind.i64 b5, Value.int IntKind.i64 b6]); refine (HPT1.out _).mono ?_; rintro e w7 ⟨pb1, v1, rfl, hp7, hq7, hpc7, hrow7, harr7, hb7⟩; have HB7 := Lib.hid (HST.out _ _ HB6.out hb7); have F7 := Lib.hid (⟨hq7, harr7.lt, hpc7, hrow7, (fun i h => (hrow7.lt i h).2), harr7⟩ : _ ∧ _ ∧ _ ∧ _ ∧ _ ∧ _); have G7 := Lib.hid (G6.out.below hb7 (fun i h => (G6.out.lt i h).2)); clear hp7 hq7 hpc7 hrow7 harr7 hb7)
        | (go_at_call 87; refine (HC1.out _ _ _ _ _ F7.out.1 F7.out.2.1 F7.out.2.2.1 F7.out.2.2.2.1 F7.out.2.2.2.2.1 F7.out.2.2.2.2.2).mono ?_; rintro e w8 ⟨u1, rfl, hrw8, hb8⟩; have HB8 := Lib.hid (HST.out _ _ HB7.out hb8); have G8 := Lib.hid (G7.out.below hb8 (fun i h => (G7.out.lt i h).2)); have K8 := Lib.hid hrw8; clear hrw8 hb8)
        | (go_at_call 87; refine (HC0.out _ _ _ _ _ F5.out.1 F5.out.2.1 F5.out.2.2.1 F5.out.2.2.2.1 F5.out.2.2.2.2.1 F5.out.2.2.2.2.2).mono ?_; rintro e w6 ⟨u0, rfl, hrw6, hb6⟩; have HB6 := Lib.hid (HST.out _ _ HB5.out hb6); have G6 := Lib.hid hrw6; clear hrw6 hb6)
        | (go_at_call 86; refine (eqP_any _ _ Q0 Q1 _ _ _ G8.out K8.out HQ0.out).mono ?_; rintro e w9 ⟨rfl, p9, rfl⟩))
    all_goals
      go_wp2
      go_ret
      exact ⟨rfl, HB4.out.trans ((below_drewN HB8.out _).mono HB4.out.size)⟩
end Go.Proofs.Ythffcmoklhicmaa
