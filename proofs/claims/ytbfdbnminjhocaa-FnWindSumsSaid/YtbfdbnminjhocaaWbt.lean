/- WindBetween of the model and of the program. -/
import Derived.Test.YtbfdbnminjhocaaWofT
import Derived.Deep.RegionWith
namespace Go.Proofs.Ytbfdbnminjhocaa
open Go.ChangeShapes Go.WideShapes Go.ChangeAt Go.RowKit

def wbB (l0 l1 l2 : List Int) : Bool := twoB l0 l1 && twoB l0 l2
def wbR (l0 l1 l2 : List Int) : Int := if TwoR l0 l1 ∧ TwoR l0 l2 then (if windL l0 l1 ≤ windL l0 l2 then windL l0 l1 else windL l0 l2) else 0

section
variable (A0 : Option Addr) (n0 c0 : Nat) (A1 : Option Addr) (n1 c1 : Nat) (A2 : Option Addr) (n2 c2 H : Nat) (l0 l1 l2 : List Int) (w : World) (h0 : Rd w H A0 n0 l0) (h1 : Rd w H A1 n1 l1) (h2 : Rd w H A2 n2 l2) (hH : H ≤ w.heap.size) (hn0 : n0 ≤ 1048576) (hn1 : n1 ≤ 1048576) (hn2 : n2 ≤ 1048576)
include h0 h1 h2 hH hn0 hn1 hn2

set_option maxHeartbeats 1000000 in
theorem wbS_any : Calls Try.prog 36 #[.slice A0 n0 c0, .slice A1 n1 c1, .slice A2 n2 c2] w fun e w' => e = .returned (.tuple #[.int .i64 (wbR l0 l1 l2), .bool (wbB l0 l1 l2)]) ∧ Below w.heap.size w w' := by
  have HT1 := Lib.hid (twoS_any A0 n0 c0 A1 n1 c1 H l0 l1 w h0 h1 hn0 hn1)
  have HT2 := Lib.hid (twoS_any A0 n0 c0 A2 n2 c2 H l0 l2 w h0 h2 hn0 hn2)
  by_cases t1 : TwoR l0 l1
  rotate_left
  · rw [wbR, if_neg (fun h => t1 h.1), wbB, twoNo t1, Bool.false_and]
    rw [twoNo t1] at HT1
    clear h0 h1 h2 t1
    go_enter Try.func36, Try.ntmps36
    go_wp2_with (go_at_call_of 76 (Value.slice A1 n1 c1); refine HT1.out.mono ?_; rintro e w' ⟨rfl, rfl⟩)
    go_ret2
    exact ⟨rfl, Below.refl _ _⟩
  by_cases t2 : TwoR l0 l2
  rotate_left
  · rw [wbR, if_neg (fun h => t2 h.2), wbB, twoYes t1, twoNo t2, Bool.true_and]
    rw [twoYes t1] at HT1
    rw [twoNo t2] at HT2
    clear h0 h1 h2 t1 t2
    go_enter Try.func36, Try.ntmps36
    go_wp2_with fail
    refine HT1.out.mono ?_
    rintro e w' ⟨rfl, rfl⟩
    go_wp2_with fail
    refine HT2.out.mono ?_
    rintro e w' ⟨rfl, rfl⟩
    go_wp2
    go_ret2
    exact ⟨rfl, Below.refl _ _⟩
  have L0 := h0.len
  have L1 := h1.len
  have L2 := h2.len
  have HW1 := Lib.hid (fun V (hV : Below w.heap.size w V) => windS_any A0 n0 c0 A1 n1 c1 H l0 l1 V (h0.below (hV.mono hH)) (h1.below (hV.mono hH)) (Nat.le_trans hH hV.size) (by have := t1.1.1.1; omega) (by have := t1.1.1.2.1; omega) (by have := t1.2.1.1.1; omega) (by have := t1.2.1.1.2.1; omega) t1.w2.mem)
  have HW2 := Lib.hid (fun V (hV : Below w.heap.size w V) => windS_any A0 n0 c0 A2 n2 c2 H l0 l2 V (h0.below (hV.mono hH)) (h2.below (hV.mono hH)) (Nat.le_trans hH hV.size) (by have := t2.1.1.1; omega) (by have := t2.1.1.2.1; omega) (by have := t2.2.1.1.1; omega) (by have := t2.2.1.1.2.1; omega) t2.w2.mem)
  rw [wbR, if_pos ⟨t1, t2⟩, wbB, twoYes t1, twoYes t2, Bool.true_and]
  rw [twoYes t1] at HT1
  rw [twoYes t2] at HT2
  clear h0 h1 h2 t1 t2 L0 L1 L2
  generalize windL l0 l1 = r1 at *
  generalize windL l0 l2 = r2 at *
  go_enter Try.func36, Try.ntmps36
  go_wp2_with fail
  refine HT1.out.mono ?_
  rintro e w' ⟨rfl, rfl⟩
  go_wp2_with fail
  refine HT2.out.mono ?_
  rintro e w' ⟨rfl, rfl⟩
  go_wp2_with fail
  refine (HW1.out w (Below.refl _ _)).mono ?_
  rintro e w1 ⟨rfl, hb1⟩
  have HB1 := Lib.hid hb1
  clear hb1
  go_wp2_with fail
  refine (HW2.out w1 HB1.out).mono ?_
  rintro e w2 ⟨rfl, hb2⟩
  have HB2 := Lib.hid (HB1.out.trans (hb2.mono HB1.out.size))
  clear hb2
  by_cases hle : r1 ≤ r2
  · have hm : min r1 r2 = r1 := by omega
    go_wp2
    go_ret2
    exact ⟨by first | rfl | (rw [if_pos (by omega)]; rfl), HB2.out⟩
  · have hm : min r1 r2 = r2 := by omega
    go_wp2
    go_ret2
    exact ⟨by first | rfl | (rw [if_neg (by omega)]; rfl), HB2.out⟩

variable (hnc0 : n0 ≤ c0) (hcm0 : c0 ≤ 9223372036854775807) (hnc1 : n1 ≤ c1) (hcm1 : c1 ≤ 9223372036854775807) (hnc2 : n2 ≤ c2) (hcm2 : c2 ≤ 9223372036854775807)
include hnc0 hcm0 hnc1 hcm1 hnc2 hcm2

attribute [local go_sem ↓] ldW_fold stW_fold in
set_option maxRecDepth 10000 in
set_option maxHeartbeats 2000000 in
theorem wbI_any : Calls Try.prog 35 #[.slice A0 n0 c0, .slice A1 n1 c1, .slice A2 n2 c2] w fun e w' => e = .returned (.tuple #[.int .i64 (wbR l0 l1 l2), .bool (wbB l0 l1 l2)]) ∧ Below w.heap.size w w' := by
  have HR1 := Lib.hid (rdw_any A0 n0 c0 A1 n1 c1 H l0 l1 w h0 h1 hH hn0 hn1 hnc0 hcm0 hnc1 hcm1)
  have HR2 := Lib.hid (fun V (hV : Below w.heap.size w V) => rdw_any A0 n0 c0 A2 n2 c2 H l0 l2 V (h0.below (hV.mono hH)) (h2.below (hV.mono hH)) (Nat.le_trans hH hV.size) hn0 hn2 hnc0 hcm0 hnc2 hcm2)
  have h70 := ringP_length l0
  have h71 := ringP_length l1
  have h72 := ringP_length l2
  clear h0 h1 h2
  by_cases t1 : TwoR l0 l1
  rotate_left
  · rw [wbR, if_neg (fun h => t1 h.1), wbB, twoNo t1, Bool.false_and]
    rw [twoNo t1] at HR1
    clear t1
    generalize ringP l0 = P at *
    generalize ringP l1 = Q at *
    generalize ringP l2 = S at *
    generalize twoB l0 l2 = b2 at *
    go_enter Try.func35, Try.ntmps35
    go_wp2_with fail
    refine HR1.out.mono ?_
    rintro e W1 ⟨rfl, hb1⟩
    obtain ⟨W2', r2, hx2, hb2, hs2⟩ := new_wind W1 P Q h70 h71
    have HB := Lib.hid (hb1.trans (hb2.mono hb1.size))
    clear hb1 hb2 hx2 hs2
    go_wp2_with fail
    refine (HR2.out _ HB.out).mono ?_
    rintro e W3 ⟨rfl, hb3⟩
    obtain ⟨W4, r4, hx4, hb4, hs4⟩ := new_wind W3 P S h70 h72
    have HB3 := Lib.hid (HB.out.trans (hb3.mono HB.out.size))
    have HB4 := Lib.hid (HB3.out.trans (hb4.mono HB3.out.size))
    clear hb3 hb4 hx4 hs4 r2
    go_wp2_with fail
    go_ret2
    exact ⟨rfl, HB4.out⟩
  by_cases t2 : TwoR l0 l2
  rotate_left
  · rw [wbR, if_neg (fun h => t2 h.2), wbB, twoYes t1, twoNo t2, Bool.true_and]
    rw [twoYes t1] at HR1
    rw [twoNo t2] at HR2
    clear t1 t2
    generalize ringP l0 = P at *
    generalize ringP l1 = Q at *
    generalize ringP l2 = S at *
    go_enter Try.func35, Try.ntmps35
    go_wp2_with fail
    refine HR1.out.mono ?_
    rintro e W1 ⟨rfl, hb1⟩
    obtain ⟨W2', r2, hx2, hb2, hs2⟩ := new_wind W1 P Q h70 h71
    have HB := Lib.hid (hb1.trans (hb2.mono hb1.size))
    clear hb1 hb2 hx2 hs2
    go_wp2_with fail
    refine (HR2.out _ HB.out).mono ?_
    rintro e W3 ⟨rfl, hb3⟩
    obtain ⟨W4, r4, hx4, hb4, hs4⟩ := new_wind W3 P S h70 h72
    have HB3 := Lib.hid (HB.out.trans (hb3.mono HB.out.size))
    have HB4 := Lib.hid (HB3.out.trans (hb4.mono HB3.out.size))
    clear hb3 hb4 hx4 hs4 r2
    go_wp2_with fail
    go_ret2
    exact ⟨rfl, HB4.out⟩
  have HW1 := Lib.hid (fun W => turns_any l0 l1 W t1.w2)
  have HW2 := Lib.hid (fun W => turns_any l0 l2 W t2.w2)
  rw [ring_list t1.1] at HR1 HR2 h70
  rw [ring_list t1.2.1] at HR1 h71
  rw [ring_list t2.2.1] at HR2 h72
  rw [wbR, if_pos ⟨t1, t2⟩, wbB, twoYes t1, twoYes t2, Bool.true_and]
  rw [twoYes t1] at HR1
  rw [twoYes t2] at HR2
  clear t1 t2
  generalize windL l0 l1 = r1 at *
  generalize windL l0 l2 = r2 at *
  generalize padR l0 = P at *
  generalize padR l1 = Q at *
  generalize padR l2 = S at *
  go_enter Try.func35, Try.ntmps35
  go_wp2_with fail
  refine HR1.out.mono ?_
  rintro e W1 ⟨rfl, hb1⟩
  obtain ⟨W2', q2, hx2, hb2, hs2⟩ := new_wind W1 P Q h70 h71
  have HB := Lib.hid (hb1.trans (hb2.mono hb1.size))
  have HX2 := Lib.hid hx2
  clear hb1 hb2 hx2 hs2
  go_wp2_with fail
  refine (HR2.out _ HB.out).mono ?_
  rintro e W3 ⟨rfl, hb3⟩
  obtain ⟨W4, q4, hx4, hb4, hs4⟩ := new_wind W3 P S h70 h72
  have HB3 := Lib.hid (HB.out.trans (hb3.mono HB.out.size))
  have HB4 := Lib.hid (HB3.out.trans (hb4.mono HB3.out.size))
  have HX3 := Lib.hid (HX2.out.below hb3 HX2.out.lt)
  have HX4 := Lib.hid (HX3.out.below hb4 HX3.out.lt)
  have HY4 := Lib.hid hx4
  have e1 := ldW_run (w := W4.drew) HX4.out h70 h71
  have e2 := ldW_run (w := W4.drew) HY4.out h70 h72
  clear hb3 hb4 hx4 hs4 q2 HX2 HX3
  go_wp2_with fail
  have HX5 : Hid (Bw W4.drew W1.heap.size P Q) := HX4.out
  have HY5 : Hid (Bw W4.drew W3.heap.size P S) := HY4.out
  have HB5 := Lib.hid HB4.out.drew
  clear HX4 HY4 q4 HR1 HR2
  have hs4 := HB4.out.size
  by_cases hle : r1 ≤ r2
  · have hm : min r1 r2 = r1 := by omega
    go_region_with (first
      | (go_at_call_of 65 (agw P S); refine (HW2.out _).mono ?_; rintro e w6 ⟨rfl, hb6⟩; have HB7 := Lib.hid (HB6.out.trans (hb6.mono HB6.out.size)); clear hb6)
      | (go_at_call_of 65 (agw P Q); refine (HW1.out _).mono ?_; rintro e w5 ⟨rfl, hb5⟩; have HB6 := Lib.hid (HB5.out.trans (hb5.mono HB5.out.size)); have e3 := ldW_run (HY5.out.below hb5 HY5.out.lt) h70 h72; clear hb5))
    all_goals
      clear e1 e2 e3
      go_wp2
      go_ret2
      exact ⟨by first | rfl | (rw [if_pos (by omega)]; rfl), HB7.out⟩
  · have hm : min r1 r2 = r2 := by omega
    go_region_with (first
      | (go_at_call_of 65 (agw P S); refine (HW2.out _).mono ?_; rintro e w6 ⟨rfl, hb6⟩; have HB7 := Lib.hid (HB6.out.trans (hb6.mono HB6.out.size)); clear hb6)
      | (go_at_call_of 65 (agw P Q); refine (HW1.out _).mono ?_; rintro e w5 ⟨rfl, hb5⟩; have HB6 := Lib.hid (HB5.out.trans (hb5.mono HB5.out.size)); have e3 := ldW_run (HY5.out.below hb5 HY5.out.lt) h70 h72; clear hb5))
    all_goals
      clear e1 e2 e3
      go_wp2
      go_ret2
      exact ⟨by first | rfl | (rw [if_neg (by omega)]; rfl), HB7.out⟩
end
end Go.Proofs.Ytbfdbnminjhocaa
