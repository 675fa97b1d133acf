/- PairSame of the program. -/
import Derived.Test.YtamnacgclhaggabApp
import Derived.Test.YtamnacgclhaggabEqP
import Derived.Test.YtamnacgclhaggabPsS
import Derived.Test.YtamnacgclhaggabTwo
import Derived.Deep.RegionHeld3
namespace Go.Proofs.Ytamnacgclhaggab
open Go.ChangeShapes Go.WideShapes Go.ChangeAt Go.RowKit Go.Shelf

abbrev prtF (pb rb : Nat) : Value := .func (.func 104) #[] #[.pointer (some ⟨pb, 0, none⟩), .pointer (some ⟨rb, 0, none⟩)]

set_option maxHeartbeats 1000000 in
theorem col_any (pb rb B0 : Nat) (l : List Int) (ht : Tell l) (v : Value) (w : World) (hpb : pb < w.heap.size) (hrb : rb < w.heap.size) (hP : w.cell? ⟨pb, 0, none⟩ = some v) (hrow : RowN w B0 57 2 v (pairsL l.length)) (hrl : ∀ i, v.ownBlock = some i → i < w.heap.size) (harr : Arr w rb (padR l)) :
    Calls Try.prog 76 #[.func (.func 104) #[] #[.pointer (some ⟨pb, 0, none⟩), .pointer (some ⟨rb, 0, none⟩)]] w fun e w' => ∃ u, e = .returned u ∧ RowN w' w.heap.size 59 4 u (allP l) ∧ Below w.heap.size w w' := by
  have HA := Lib.hid (app_any pb rb B0 l ht v w hpb hrb hP hrow hrl harr)
  clear ht hP hrow hrl harr
  obtain ⟨Q, hQ⟩ : ∃ Q, Q = allP l := ⟨_, rfl⟩
  rw [← hQ] at HA ⊢
  clear hQ
  go_enter Try.func76, Try.ntmps76
  go_wp2_with fail
  refine HA.out.mono ?_
  rintro e w2 ⟨u, rfl, hrow, hb⟩
  have HR := Lib.hid hrow
  have HB := Lib.hid hb
  clear hrow hb HA
  go_wp2
  go_ret
  exact ⟨u, rfl, HR.out, HB.out⟩
/-! psI -/
attribute [local go_sem ↓] stR_fold in
set_option maxRecDepth 10000 in
set_option maxHeartbeats 4000000 in
theorem psI_any (A0 : Option Addr) (n0 c0 : Nat) (A1 : Option Addr) (n1 c1 H : Nat) (l0 l1 : List Int) (w : World) (h0 : Rd w H A0 n0 l0) (h1 : Rd w H A1 n1 l1) (hH : H ≤ w.heap.size) (hn0 : n0 ≤ 1048576) (hn1 : n1 ≤ 1048576) (hnc0 : n0 ≤ c0) (hcm0 : c0 ≤ 9223372036854775807) (hnc1 : n1 ≤ c1) (hcm1 : c1 ≤ 9223372036854775807) :
    Calls Try.prog 30 #[.slice A0 n0 c0, .slice A1 n1 c1] w fun e w' => e = .returned (.bool (psB l0 l1)) ∧ Below w.heap.size w w' := by
  have HR := Lib.hid (two_any A0 n0 c0 A1 n1 c1 H l0 l1 w h0 h1 hH hn0 hn1 hnc0 hcm0 hnc1 hcm1)
  have H70 := ringP_length l0
  have H71 := ringP_length l1
  have L0 := h0.len
  have L1 := h1.len
  clear h0 h1
  by_cases h2 : TwoR l0 l1
  rotate_left
  · rw [ps_no (fun hh => h2 ⟨hh.1, hh.2.1, hh.2.2.1⟩)]
    rw [twoNo h2] at HR
    generalize ringP l0 = P0 at *
    generalize ringP l1 = P1 at *
    clear h2 L0 L1
    go_enter Try.func30, Try.ntmps30
    go_wp2_with fail
    refine HR.out.mono ?_
    rintro e W1 ⟨rfl, hb1⟩
    obtain ⟨V1, V, r1, r2, a1, a2, hb2, hs2⟩ := new_two W1 P0 P1 H70 H71
    have HB := Lib.hid (hb1.trans (hb2.mono hb1.size))
    clear hb1 hb2 a1 a2 hs2
    go_wp2_with fail
    go_ret
    exact ⟨rfl, HB.out⟩
  have hr0 := h2.1
  have hr1 := h2.2.1
  rw [twoYes h2] at HR
  by_cases h4 : 4 ≤ n0
  rotate_left
  · rw [ps_no (fun hh => h4 (by rw [← L0]; exact hh.2.2.2))]
    generalize ringP l0 = P0 at *
    generalize ringP l1 = P1 at *
    clear h2 hr0 hr1 L0 L1
    go_enter Try.func30, Try.ntmps30
    go_wp2_with fail
    refine HR.out.mono ?_
    rintro e W1 ⟨rfl, hb1⟩
    obtain ⟨V1, V, r1, r2, a1, a2, hb2, hs2⟩ := new_two W1 P0 P1 H70 H71
    have HB := Lib.hid (hb1.trans (hb2.mono hb1.size))
    clear hb1 hb2 a1 a2 hs2
    go_wp2_with fail
    go_ret
    exact ⟨rfl, HB.out⟩
  · rw [ps_yes ⟨hr0, hr1, h2.2.2, by rw [L0]; exact h4⟩]
    have e0 : ringP l0 = padR l0 := by rw [ringP, if_pos hr0]
    have e1 : ringP l1 = padR l1 := by rw [ringP, if_pos hr1]
    have T0 := Lib.hid hr0.1
    have T1 := Lib.hid hr1.1
    have HPT0 := Lib.hid (fun V => partings_any l0 V T0.out)
    have HPT1 := Lib.hid (fun V => partings_any l1 V T1.out)
    have HC0 := Lib.hid (fun pb rb B0 v V => col_any pb rb B0 l0 T0.out v V)
    have HC1 := Lib.hid (fun pb rb B0 v V => col_any pb rb B0 l1 T1.out v V)
    have HQ0 := Lib.hid (show (allP l0).length ≤ 3000 by have := allP_len l0 T0.out.2.1; omega)
    rw [e0, e1] at HR
    obtain ⟨a0, a1, a2, a3, a4, a5, a6, hP0⟩ := seven (padR_length l0 T0.out.2.1)
    obtain ⟨b0, b1, b2, b3, b4, b5, b6, hP1⟩ := seven (padR_length l1 T1.out.2.1)
    unfold agp at HPT0 HPT1
    simp only [hP0] at HPT0 HC0 HR
    simp only [hP1] at HPT1 HC1 HR
    simp only [ints, List.map_cons, List.map_nil] at HPT0 HPT1 HR
    clear e0 e1 hP0 hP1 T0 T1 hr0 hr1 L0 L1 h2 H70 H71
    generalize allP l0 = Q0 at *
    generalize allP l1 = Q1 at *
    generalize pairsL l0.length = Z0 at *
    generalize pairsL l1.length = Z1 at *
    go_enter Try.func30, Try.ntmps30
    go_wp2_with fail
    refine HR.out.mono ?_
    rintro e W1 ⟨rfl, hb1⟩
    obtain ⟨V1, w4, r1, r2, x1, x2, hb2, hs4⟩ := new_two W1 [a0, a1, a2, a3, a4, a5, a6] [b0, b1, b2, b3, b4, b5, b6] rfl rfl
    have HB4 := Lib.hid (hb1.trans (hb2.mono hb1.size))
    have HA6 := Lib.hid x1
    have HA4 := Lib.hid x2
    simp only [ints, List.map_cons, List.map_nil] at r1 r2
    obtain ⟨_, _, _, _, _, _, _⟩ := cells7 x1
    obtain ⟨_, _, _, _, _, _, _⟩ := cells7 x2
    clear hb1 hb2 x1 x2
    have HK := Lib.hid (fun (V : World) (hV : Below w4.heap.size w4 V) => (⟨cells7 (HA6.out.below hV HA6.out.lt), cells7 (HA4.out.below hV HA4.out.lt)⟩ : _ ∧ _))
    have HST := Lib.hid (fun (V V' : World) (h1 : Below w4.heap.size w4 V) (h2 : Below V.heap.size V V') => h1.trans (h2.mono h1.size))
    clear HA4 HA6 HR
    go_wp2_with fail
    clear r1 r2 hs4
    generalize W1.heap.size + 1 = r1 at *
    generalize W1.heap.size = r0 at *
    go_region_held3 (fun V => ((V.cell? ⟨r0, 0, none⟩ = some (.int .i64 a0) ∧ V.cell? ⟨r0, 1, none⟩ = some (.int .i64 a1) ∧ V.cell? ⟨r0, 2, none⟩ = some (.int .i64 a2) ∧ V.cell? ⟨r0, 3, none⟩ = some (.int .i64 a3) ∧ V.cell? ⟨r0, 4, none⟩ = some (.int .i64 a4) ∧ V.cell? ⟨r0, 5, none⟩ = some (.int .i64 a5) ∧ V.cell? ⟨r0, 6, none⟩ = some (.int .i64 a6)) ∧ (V.cell? ⟨r1, 0, none⟩ = some (.int .i64 b0) ∧ V.cell? ⟨r1, 1, none⟩ = some (.int .i64 b1) ∧ V.cell? ⟨r1, 2, none⟩ = some (.int .i64 b2) ∧ V.cell? ⟨r1, 3, none⟩ = some (.int .i64 b3) ∧ V.cell? ⟨r1, 4, none⟩ = some (.int .i64 b4) ∧ V.cell? ⟨r1, 5, none⟩ = some (.int .i64 b5) ∧ V.cell? ⟨r1, 6, none⟩ = some (.int .i64 b6))))
      (first
        | exact HK.out _ (Below.refl _ _).drew
        | exact HK.out _ HB5.out
        | exact HK.out _ HB6.out
        | exact HK.out _ HB7.out
        | exact HK.out _ HB8.out
        | exact HK.out _ (below_drewN HB8.out _))
      (first
        | (go_at_call_of 50 (Value.agg #[Value.int IntKind.i64 a0, Value.int IntKind.i64 a1, Value.int IntKind.i64 a2, Value.int IntKind.i64 a3, Value.int IntKind.i64 a4, Value.int IntKind.i64 a5, Value.int IntKind.i64 a6]); refine (HPT0.out _).mono ?_; rintro e w5 ⟨pb0, v0, rfl, hp5, hq5, hpc5, hrow5, harr5, hb5⟩; have HB5 := Lib.hid (HST.out _ _ (Below.refl _ w4).drew hb5); have F5 := Lib.hid (⟨hq5, harr5.lt, hpc5, hrow5, (fun i h => (hrow5.lt i h).2), harr5⟩ : _ ∧ _ ∧ _ ∧ _ ∧ _ ∧ _); clear hp5 hq5 hpc5 hrow5 harr5 hb5)
        | (go_at_call_of 50 (Value.agg #[Value.int IntKind.i64 b0, Value.int IntKind.i64 b1, Value.int IntKind.i64 b2, Value.int IntKind.i64 b3, Value.int IntKind.i64 b4, Value.int IntKind.i64 b5, Value.int IntKind.i64 b6]); refine (HPT1.out _).mono ?_; rintro e w7 ⟨pb1, v1, rfl, hp7, hq7, hpc7, hrow7, harr7, hb7⟩; have HB7 := Lib.hid (HST.out _ _ HB6.out hb7); have F7 := Lib.hid (⟨hq7, harr7.lt, hpc7, hrow7, (fun i h => (hrow7.lt i h).2), harr7⟩ : _ ∧ _ ∧ _ ∧ _ ∧ _ ∧ _); have G7 := Lib.hid (G6.out.below hb7 (fun i h => (G6.out.lt i h).2)); clear hp7 hq7 hpc7 hrow7 harr7 hb7)
        | (go_at_call 76; refine (HC1.out _ _ _ _ _ F7.out.1 F7.out.2.1 F7.out.2.2.1 F7.out.2.2.2.1 F7.out.2.2.2.2.1 F7.out.2.2.2.2.2).mono ?_; rintro e w8 ⟨u1, rfl, hrw8, hb8⟩; have HB8 := Lib.hid (HST.out _ _ HB7.out hb8); have G8 := Lib.hid (G7.out.below hb8 (fun i h => (G7.out.lt i h).2)); have K8 := Lib.hid hrw8; clear hrw8 hb8)
        | (go_at_call 76; refine (HC0.out _ _ _ _ _ F5.out.1 F5.out.2.1 F5.out.2.2.1 F5.out.2.2.2.1 F5.out.2.2.2.2.1 F5.out.2.2.2.2.2).mono ?_; rintro e w6 ⟨u0, rfl, hrw6, hb6⟩; have HB6 := Lib.hid (HST.out _ _ HB5.out hb6); have G6 := Lib.hid hrw6; clear hrw6 hb6)
        | (go_at_call 75; refine (eqP_any _ _ Q0 Q1 _ _ _ G8.out K8.out HQ0.out).mono ?_; rintro e w9 ⟨rfl, p9, rfl⟩))
    all_goals
      go_wp2
      go_ret
      exact ⟨rfl, HB4.out.trans ((below_drewN HB8.out _).mono HB4.out.size)⟩
end Go.Proofs.Ytamnacgclhaggab
