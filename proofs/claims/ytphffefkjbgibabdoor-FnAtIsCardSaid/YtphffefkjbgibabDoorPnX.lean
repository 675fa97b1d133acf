/- At how many sets a ring has a pattern, the first one: the program. -/
import Derived.Test.YtphffefkjbgibabDoorPnW
import Derived.Test.YtphffefkjbgibabDoorPnT
import Derived.Test.YtphffefkjbgibabDoorPnV
import Derived.Test.YtphffefkjbgibabDoorPR
namespace Go.Proofs.YtphffefkjbgibabDoor
open Go.ChangeShapes Go.WideShapes Go.ChangeAt Go.RowKit

theorem sw_mny (l p : List Int) : (swL l p).length = mnyN l p := by rw [swL, List.length_map, sets_len]
theorem sw_fir (l p : List Int) : (swL l p).getD 0 0 = (firN l p : Int) := by
  unfold swL firN
  cases setsL l p with
  | nil => rfl
  | cons a t => rfl

attribute [local go_sem ↓] ldR_fold stR_fold in
set_option maxRecDepth 10000 in
set_option maxHeartbeats 2000000 in
theorem pmI_any (A0 : Option Addr) (n0 c0 : Nat) (A1 : Option Addr) (n1 c1 H : Nat) (l0 l1 : List Int) (w : World) (h0 : Rd w H A0 n0 l0) (h1 : Rd w H A1 n1 l1) (hH : H ≤ w.heap.size) (hn0 : n0 ≤ 1048576) (hn1 : n1 ≤ 1048576) (hnc0 : n0 ≤ c0) (hcm0 : c0 ≤ 9223372036854775807) (hnc1 : n1 ≤ c1) (hcm1 : c1 ≤ 9223372036854775807) (hT : Tab w) :
    Calls Tryd.prog 8 #[.slice A0 n0 c0, .slice A1 n1 c1] w fun e w' => e = .returned (.tuple #[.int .i64 (pmR l0 l1), .bool (two8 l0 l1)]) ∧ Below w.heap.size w w' := by
  have HR := Lib.hid (pat2_any A0 n0 c0 A1 n1 c1 H l0 l1 w h0 h1 hH hn0 hn1 hnc0 hcm0 hnc1 hcm1)
  have H70 := ringP_length l0
  have H71 := ringP_length l1
  have HTB := Lib.hid (fun (W : World) (hb : Below w.heap.size w W) => hT.on hb)
  clear h0 h1 hT
  by_cases h2 : Two8 l0 l1
  rotate_left
  · rw [two8_no h2] at HR
    rw [pmR, if_neg h2, two8_no h2]
    generalize ringP l0 = P0 at *
    generalize ringP l1 = P1 at *
    clear h2
    go_enter Tryd.func8, Tryd.ntmps8
    go_wp2_with fail
    refine HR.out.mono ?_
    rintro e W1 ⟨rfl, hb1⟩
    obtain ⟨V1, V, r1, r2, a1, a2, hb2, hs2⟩ := new_two W1 P0 P1 H70 H71
    have HB := Lib.hid (hb1.trans (hb2.mono hb1.size))
    clear hb1 hb2 a1 a2 hs2
    go_wp2_with fail
    go_ret2
    exact ⟨rfl, HB.out⟩
  · have HD := Lib.hid (fun V (hV : Tab V) => setsW_any l0 l1 V h2.1.1 h2.2.1.1 hV)
    have HM := Lib.hid (sw_mny l0 l1)
    have hm7 := mny_le l1 h2.1.1.2.1
    rw [pmR, if_pos h2, two8_yes h2]
    have e0 : ringP l0 = padR l0 := by rw [ringP, if_pos h2.1]
    have e1 : ringP l1 = padR l1 := by rw [ringP, if_pos h2.2.1]
    rw [two8_yes h2] at HR
    rw [e0] at HR H70
    rw [e1] at HR H71
    unfold agp at HD
    clear h2 e0 e1
    generalize mnyN l0 l1 = z at *
    generalize swL l0 l1 = L at *
    generalize padR l0 = P0 at *
    generalize padR l1 = P1 at *
    obtain ⟨a0, a1, a2, a3, a4, a5, a6, rfl⟩ := seven H70
    obtain ⟨b0, b1, b2, b3, b4, b5, b6, rfl⟩ := seven H71
    simp only [ints, List.map_cons, List.map_nil] at HD HR
    go_enter Tryd.func8, Tryd.ntmps8
    go_wp2_with fail
    refine HR.out.mono ?_
    rintro e W1 ⟨rfl, hb1⟩
    obtain ⟨V1, V, r1, r2, x1, x2, hb2, hs2⟩ := new_two W1 [a0, a1, a2, a3, a4, a5, a6] [b0, b1, b2, b3, b4, b5, b6] rfl rfl
    have q1 := ldR_run x1 rfl
    have q2 := ldR_run x2 rfl
    have HB := Lib.hid (hb1.trans (hb2.mono hb1.size))
    have HTV := Lib.hid (HTB.out V HB.out)
    simp only [ints, List.map_cons, List.map_nil] at r1 r2 q1 q2
    clear hb1 hb2 x1 x2 hs2
    go_wp2_with fail
    refine (HD.out V HTV.out).mono ?_
    rintro e w4 ⟨v4, rfl, ho4, hb4⟩
    have HB4 := Lib.hid (HB.out.trans (hb4.mono HB.out.size))
    obtain ⟨A4, c4, ev⟩ := ho4.slice
    subst ev
    clear hb4 ho4
    rw [HM.out]
    go_wp2
    go_ret2
    exact ⟨rfl, HB4.out⟩

attribute [local go_sem ↓] ldR_fold stR_fold in
set_option maxRecDepth 10000 in
set_option maxHeartbeats 2000000 in
theorem pfI_any (A0 : Option Addr) (n0 c0 : Nat) (A1 : Option Addr) (n1 c1 H : Nat) (l0 l1 : List Int) (w : World) (h0 : Rd w H A0 n0 l0) (h1 : Rd w H A1 n1 l1) (hH : H ≤ w.heap.size) (hn0 : n0 ≤ 1048576) (hn1 : n1 ≤ 1048576) (hnc0 : n0 ≤ c0) (hcm0 : c0 ≤ 9223372036854775807) (hnc1 : n1 ≤ c1) (hcm1 : c1 ≤ 9223372036854775807) (hT : Tab w) :
    Calls Tryd.prog 15 #[.slice A0 n0 c0, .slice A1 n1 c1] w fun e w' => e = .returned (.tuple #[.int .i64 (pfR l0 l1), .bool (pfB l0 l1)]) ∧ Below w.heap.size w w' := by
  have HR := Lib.hid (pat2_any A0 n0 c0 A1 n1 c1 H l0 l1 w h0 h1 hH hn0 hn1 hnc0 hcm0 hnc1 hcm1)
  have H70 := ringP_length l0
  have H71 := ringP_length l1
  have HTB := Lib.hid (fun (W : World) (hb : Below w.heap.size w W) => hT.on hb)
  clear h0 h1 hT
  by_cases h2 : Two8 l0 l1
  rotate_left
  · rw [two8_no h2] at HR
    have e9 : pfB l0 l1 = false := by rw [pfB, if_neg h2]
    rw [pfR, e9]
    generalize ringP l0 = P0 at *
    generalize ringP l1 = P1 at *
    clear h2
    go_enter Tryd.func15, Tryd.ntmps15
    go_wp2_with fail
    refine HR.out.mono ?_
    rintro e W1 ⟨rfl, hb1⟩
    obtain ⟨V1, V, r1, r2, a1, a2, hb2, hs2⟩ := new_two W1 P0 P1 H70 H71
    have HB := Lib.hid (hb1.trans (hb2.mono hb1.size))
    clear hb1 hb2 a1 a2 hs2
    go_wp2_with fail
    go_ret2
    exact ⟨rfl, HB.out⟩
  · have HD := Lib.hid (fun V (hV : Tab V) => setsW_any l0 l1 V h2.1.1 h2.2.1.1 hV)
    have HM := Lib.hid (sw_mny l0 l1)
    have hm7 := mny_le l1 h2.1.1.2.1
    have HF := Lib.hid (sw_fir l0 l1)
    have HB0 : Hid (pfB l0 l1 = decide (0 < mnyN l0 l1)) := by rw [Hid, pfB, if_pos h2]
    have HR0 : Hid (pfR l0 l1 = if 0 < mnyN l0 l1 then (firN l0 l1 : Int) else 0) := by
      rw [Hid, pfR, HB0.out]
      by_cases h : 0 < mnyN l0 l1
      · simp [h]
      · simp [h]
    rw [HB0.out, HR0.out]
    clear HB0 HR0
    generalize firN l0 l1 = f at *
    have e0 : ringP l0 = padR l0 := by rw [ringP, if_pos h2.1]
    have e1 : ringP l1 = padR l1 := by rw [ringP, if_pos h2.2.1]
    rw [two8_yes h2] at HR
    rw [e0] at HR H70
    rw [e1] at HR H71
    unfold agp at HD
    clear h2 e0 e1
    generalize mnyN l0 l1 = z at *
    generalize swL l0 l1 = L at *
    generalize padR l0 = P0 at *
    generalize padR l1 = P1 at *
    obtain ⟨a0, a1, a2, a3, a4, a5, a6, rfl⟩ := seven H70
    obtain ⟨b0, b1, b2, b3, b4, b5, b6, rfl⟩ := seven H71
    simp only [ints, List.map_cons, List.map_nil] at HD HR
    go_enter Tryd.func15, Tryd.ntmps15
    go_wp2_with fail
    refine HR.out.mono ?_
    rintro e W1 ⟨rfl, hb1⟩
    obtain ⟨V1, V, r1, r2, x1, x2, hb2, hs2⟩ := new_two W1 [a0, a1, a2, a3, a4, a5, a6] [b0, b1, b2, b3, b4, b5, b6] rfl rfl
    have q1 := ldR_run x1 rfl
    have q2 := ldR_run x2 rfl
    have HB := Lib.hid (hb1.trans (hb2.mono hb1.size))
    have HTV := Lib.hid (HTB.out V HB.out)
    simp only [ints, List.map_cons, List.map_nil] at r1 r2 q1 q2
    clear hb1 hb2 x1 x2 hs2
    go_wp2_with fail
    refine (HD.out V HTV.out).mono ?_
    rintro e w4 ⟨v4, rfl, ho4, hb4⟩
    have HB4 := Lib.hid (HB.out.trans (hb4.mono HB.out.size))
    obtain ⟨A4, c4, ev⟩ := ho4.slice
    subst ev
    have hrd := ho4.rd.2
    rw [HM.out] at hrd ⊢
    clear hb4 ho4
    by_cases hz : 0 < z
    · obtain ⟨b, o, rfl, hbB, hcs⟩ := hrd.at_ hz
      have hc := hcs 0 hz
      rw [HF.out, Nat.add_zero] at hc
      have e2 : ((z : Int) == 0) = false := by simp; omega
      clear hcs hrd q1 q2 r1 r2
      go_wp2
      go_ret2
      exact ⟨by first | rfl | (simp [hz]; done) | (rw [decide_eq_true hz, if_pos hz]; rfl), HB4.out⟩
    · obtain rfl : z = 0 := by omega
      clear hrd q1 q2 r1 r2
      go_wp2
      go_ret2
      exact ⟨rfl, HB4.out⟩

end Go.Proofs.YtphffefkjbgibabDoor
