/- The law on ArcCommon: the model and the program answer alike in every part, the arguments stay as they are, and the answer owns its memory. -/
import Derived.Test.YtknjioibmgkpmaaArD
namespace Go.Proofs.Ytknjioibmgkpmaa
open Go.ChangeShapes Go.WideShapes Go.ChangeAt Go.RowKit

set_option maxHeartbeats 2000000 in
theorem law_ArcCommon (a0 : Option Addr) (len0 cap0 : Nat) (z0 : List Int) (a1 : Option Addr) (len1 cap1 : Nat) (z1 : List Int) (w : World) (w0 : IsRow .i64 w a0 len0 cap0 z0) (w1 : IsRow .i64 w a1 len1 cap1 z1) :
    Calls Try.prog 11 #[.slice a0 len0 cap0, .slice a1 len1 cap1] w fun e w' => e = .returned (.bool true) ∧ Below w.heap.size w w' := by
  obtain ⟨h0, hlc0, hcm0⟩ := rd_of_row w0
  clear w0
  generalize z0.take len0 = l0 at h0
  obtain ⟨h1, hlc1, hcm1⟩ := rd_of_row w1
  clear w1
  generalize z1.take len1 = l1 at h1
  by_cases hn0 : len0 ≤ 1048576
  rotate_left
  · go_enter Try.func11, Try.ntmps11
    go_wp2_with fail
    go_ret
    exact ⟨rfl, Below.refl _ _⟩
  by_cases hn1 : len1 ≤ 1048576
  rotate_left
  · go_enter Try.func11, Try.ntmps11
    go_wp2_with fail
    go_ret
    exact ⟨rfl, Below.refl _ _⟩
  have hS := fun (A0 : Option Addr) (n0 c0 : Nat) (A1 : Option Addr) (n1 c1 : Nat) (H : Nat) (W : World) (hR0 : Rd W H A0 n0 l0) (hR1 : Rd W H A1 n1 l1) (hH : H ≤ W.heap.size) (hn0 : n0 ≤ 1048576) (hn1 : n1 ≤ 1048576) => Lib.hid (acS_any A0 n0 c0 A1 n1 c1 H l0 l1 W hR0 hR1 hH hn0 hn1)
  have hI := fun (A0 : Option Addr) (n0 c0 : Nat) (A1 : Option Addr) (n1 c1 : Nat) (H : Nat) (W : World) (hR0 : Rd W H A0 n0 l0) (hR1 : Rd W H A1 n1 l1) (hH : H ≤ W.heap.size) (hn0 : n0 ≤ 1048576) (hn1 : n1 ≤ 1048576) (hnc0 : n0 ≤ c0) (hcm0 : c0 ≤ 9223372036854775807) (hnc1 : n1 ≤ c1) (hcm1 : c1 ≤ 9223372036854775807) => Lib.hid (acI_any A0 n0 c0 A1 n1 c1 H l0 l1 W hR0 hR1 hH hn0 hn1 hnc0 hcm0 hnc1 hcm1)
  have hrl0 : (comR l0 l1).length ≤ 127 := comR_len l0 l1
  generalize comR l0 l1 = r0 at hS hI hrl0
  generalize twoB l0 l1 = r1 at hS hI
  have HS := Lib.hid hS
  have HI := Lib.hid hI
  have HL0 := Lib.hid h0.len
  have HL1 := Lib.hid h1.len
  clear hS hI
  go_enter Try.func11, Try.ntmps11
  have HR0_0 := Lib.hid h0
  have HR1_0 := Lib.hid h1
  clear h0 h1
  have HB_0 := Lib.hid (Below.refl w.heap.size w)
  go_wp2_with fail
  refine (toIntS_any a0 len0 cap0 l0 w (HR0_0.out.more (by omega)) hn0).mono ?_
  rintro e W1 ⟨rfl, ho, hb⟩
  have s1 := hb.size
  have HR0_1 := Lib.hid (HR0_0.out.below (hb.mono (by omega)))
  have HR1_1 := Lib.hid (HR1_0.out.below (hb.mono (by omega)))
  have HB_1 := Lib.hid (HB_0.out.trans (hb.mono (by omega)))
  have HT0_1 := Lib.hid ho.two
  clear ho hb HR0_0 HR1_0 HB_0
  go_wp2_with fail
  refine (toIntS_any a1 len1 cap1 l1 W1 (HR1_1.out.more (by omega)) hn1).mono ?_
  rintro e W2 ⟨rfl, ho, hb⟩
  have s2 := hb.size
  have HR0_2 := Lib.hid (HR0_1.out.below (hb.mono (by omega)))
  have HR1_2 := Lib.hid (HR1_1.out.below (hb.mono (by omega)))
  have HB_2 := Lib.hid (HB_1.out.trans (hb.mono (by omega)))
  have HT0_2 := Lib.hid (HT0_1.out.below hb (by omega))
  have HT1_2 := Lib.hid ho.two
  clear ho hb HR0_1 HR1_1 HB_1 HT0_1
  go_wp2_with fail
  refine ((HS.out _ len0 len0 _ len1 len1 W2.heap.size W2 (HT0_2.out.rd.more (by omega)) (HT1_2.out.rd.more (by omega)) (Nat.le_refl _) hn0 hn1).out).mono ?_
  rintro e W3 ⟨v0, rfl, ho0, hb⟩
  obtain ⟨A3_0, c3_0, rfl⟩ := ho0.slice
  have s3 := hb.size
  have HR0_3 := Lib.hid (HR0_2.out.below (hb.mono (by omega)))
  have HR1_3 := Lib.hid (HR1_2.out.below (hb.mono (by omega)))
  have HB_3 := Lib.hid (HB_2.out.trans (hb.mono (by omega)))
  have HT0_3 := Lib.hid (HT0_2.out.below hb (by omega))
  have HT1_3 := Lib.hid (HT1_2.out.below hb (by omega))
  have HV0_3 := Lib.hid ho0.two
  clear hb ho0 HR0_2 HR1_2 HB_2 HT0_2 HT1_2
  clear HT0_3
  clear HT1_3
  go_wp2_with fail
  refine (toIntS_any a0 len0 cap0 l0 W3 (HR0_3.out.more (by omega)) hn0).mono ?_
  rintro e W4 ⟨rfl, ho, hb⟩
  have s4 := hb.size
  have HR0_4 := Lib.hid (HR0_3.out.below (hb.mono (by omega)))
  have HR1_4 := Lib.hid (HR1_3.out.below (hb.mono (by omega)))
  have HB_4 := Lib.hid (HB_3.out.trans (hb.mono (by omega)))
  have HV0_4 := Lib.hid (HV0_3.out.below hb (by omega))
  have HX0_4 := Lib.hid ho.two
  clear ho hb HR0_3 HR1_3 HB_3 HV0_3
  go_wp2_with fail
  refine (toIntS_any a1 len1 cap1 l1 W4 (HR1_4.out.more (by omega)) hn1).mono ?_
  rintro e W5 ⟨rfl, ho, hb⟩
  have s5 := hb.size
  have HR0_5 := Lib.hid (HR0_4.out.below (hb.mono (by omega)))
  have HR1_5 := Lib.hid (HR1_4.out.below (hb.mono (by omega)))
  have HB_5 := Lib.hid (HB_4.out.trans (hb.mono (by omega)))
  have HV0_5 := Lib.hid (HV0_4.out.below hb (by omega))
  have HX0_5 := Lib.hid (HX0_4.out.below hb (by omega))
  have HX1_5 := Lib.hid ho.two
  clear ho hb HR0_4 HR1_4 HB_4 HV0_4 HX0_4
  go_wp2_with fail
  refine ((HI.out _ len0 len0 _ len1 len1 W5.heap.size W5 (HX0_5.out.rd.more (by omega)) (HX1_5.out.rd.more (by omega)) (Nat.le_refl _) hn0 hn1 (Nat.le_refl _) (by omega) (Nat.le_refl _) (by omega)).out).mono ?_
  rintro e W6 ⟨v0, rfl, ho0, hb⟩
  obtain ⟨A6_0, c6_0, rfl⟩ := ho0.slice
  have s6 := hb.size
  have HR0_6 := Lib.hid (HR0_5.out.below (hb.mono (by omega)))
  have HR1_6 := Lib.hid (HR1_5.out.below (hb.mono (by omega)))
  have HB_6 := Lib.hid (HB_5.out.trans (hb.mono (by omega)))
  have HV0_6 := Lib.hid (HV0_5.out.below hb (by omega))
  have HX0_6 := Lib.hid (HX0_5.out.below hb (by omega))
  have HX1_6 := Lib.hid (HX1_5.out.below hb (by omega))
  have HG0_6 := Lib.hid ho0.two
  clear hb ho0 HR0_5 HR1_5 HB_5 HV0_5 HX0_5 HX1_5
  go_wp2_with fail
  refine (eq_own _ _ _ _ _ _ _ _ _ _ r0 W6 HG0_6.out HV0_6.out (by omega)).mono ?_
  rintro e W7 ⟨rfl, hb⟩
  have s7 := hb.size
  have HR0_7 := Lib.hid (HR0_6.out.below (hb.mono (by omega)))
  have HR1_7 := Lib.hid (HR1_6.out.below (hb.mono (by omega)))
  have HB_7 := Lib.hid (HB_6.out.trans (hb.mono (by omega)))
  have HV0_7 := Lib.hid (HV0_6.out.below hb (by omega))
  have HX0_7 := Lib.hid (HX0_6.out.below hb (by omega))
  have HX1_7 := Lib.hid (HX1_6.out.below hb (by omega))
  have HG0_7 := Lib.hid (HG0_6.out.below hb (by omega))
  clear hb HR0_6 HR1_6 HB_6 HV0_6 HX0_6 HX1_6 HG0_6
  go_wp2_with fail
  refine (toIntS_any a0 len0 cap0 l0 W7 (HR0_7.out.more (by omega)) hn0).mono ?_
  rintro e W8 ⟨rfl, ho, hb⟩
  have s8 := hb.size
  have HR0_8 := Lib.hid (HR0_7.out.below (hb.mono (by omega)))
  have HR1_8 := Lib.hid (HR1_7.out.below (hb.mono (by omega)))
  have HB_8 := Lib.hid (HB_7.out.trans (hb.mono (by omega)))
  have HV0_8 := Lib.hid (HV0_7.out.below hb (by omega))
  have HX0_8 := Lib.hid (HX0_7.out.below hb (by omega))
  have HX1_8 := Lib.hid (HX1_7.out.below hb (by omega))
  have HG0_8 := Lib.hid (HG0_7.out.below hb (by omega))
  have HY0_8 := Lib.hid ho.two
  clear ho hb HR0_7 HR1_7 HB_7 HV0_7 HX0_7 HX1_7 HG0_7
  go_wp2_with fail
  refine (eq_own _ _ _ _ _ _ _ _ _ _ l0 W8 HX0_8.out HY0_8.out (by rw [HL0.out]; exact hn0)).mono ?_
  rintro e W9 ⟨rfl, hb⟩
  have s9 := hb.size
  have HR0_9 := Lib.hid (HR0_8.out.below (hb.mono (by omega)))
  have HR1_9 := Lib.hid (HR1_8.out.below (hb.mono (by omega)))
  have HB_9 := Lib.hid (HB_8.out.trans (hb.mono (by omega)))
  have HV0_9 := Lib.hid (HV0_8.out.below hb (by omega))
  have HX0_9 := Lib.hid (HX0_8.out.below hb (by omega))
  have HX1_9 := Lib.hid (HX1_8.out.below hb (by omega))
  have HG0_9 := Lib.hid (HG0_8.out.below hb (by omega))
  have HY0_9 := Lib.hid (HY0_8.out.below hb (by omega))
  clear hb HR0_8 HR1_8 HB_8 HV0_8 HX0_8 HX1_8 HG0_8 HY0_8
  clear HY0_9
  go_wp2_with fail
  refine (toIntS_any a1 len1 cap1 l1 W9 (HR1_9.out.more (by omega)) hn1).mono ?_
  rintro e W10 ⟨rfl, ho, hb⟩
  have s10 := hb.size
  have HR0_10 := Lib.hid (HR0_9.out.below (hb.mono (by omega)))
  have HR1_10 := Lib.hid (HR1_9.out.below (hb.mono (by omega)))
  have HB_10 := Lib.hid (HB_9.out.trans (hb.mono (by omega)))
  have HV0_10 := Lib.hid (HV0_9.out.below hb (by omega))
  have HX0_10 := Lib.hid (HX0_9.out.below hb (by omega))
  have HX1_10 := Lib.hid (HX1_9.out.below hb (by omega))
  have HG0_10 := Lib.hid (HG0_9.out.below hb (by omega))
  have HY1_10 := Lib.hid ho.two
  clear ho hb HR0_9 HR1_9 HB_9 HV0_9 HX0_9 HX1_9 HG0_9
  go_wp2_with fail
  refine (eq_own _ _ _ _ _ _ _ _ _ _ l1 W10 HX1_10.out HY1_10.out (by rw [HL1.out]; exact hn1)).mono ?_
  rintro e W11 ⟨rfl, hb⟩
  have s11 := hb.size
  have HR0_11 := Lib.hid (HR0_10.out.below (hb.mono (by omega)))
  have HR1_11 := Lib.hid (HR1_10.out.below (hb.mono (by omega)))
  have HB_11 := Lib.hid (HB_10.out.trans (hb.mono (by omega)))
  have HV0_11 := Lib.hid (HV0_10.out.below hb (by omega))
  have HX0_11 := Lib.hid (HX0_10.out.below hb (by omega))
  have HX1_11 := Lib.hid (HX1_10.out.below hb (by omega))
  have HG0_11 := Lib.hid (HG0_10.out.below hb (by omega))
  have HY1_11 := Lib.hid (HY1_10.out.below hb (by omega))
  clear hb HR0_10 HR1_10 HB_10 HV0_10 HX0_10 HX1_10 HG0_10 HY1_10
  clear HY1_11
  have hlb0 : l0.length ≤ 1048576 := by rw [HL0.out]; exact hn0
  go_wp2_with fail
  refine (mark_own _ _ _ l0 (1) W11 HX0_11.out (hlb0) (by omega) (by omega)).mono ?_
  rintro e W12 ⟨rfl, ho, hg⟩
  have ht := turn_of hg (fun i hi => ⟨(HX0_11.out.1.lt i hi).1, HX0_11.out.2 i hi⟩)
  clear hg
  have s12 := ht.size
  have HR0_12 := Lib.hid (HR0_11.out.turn ht (by omega) (by omega))
  have HR1_12 := Lib.hid (HR1_11.out.turn ht (by omega) (by omega))
  have HB_12 := Lib.hid (below_turn HB_11.out ht (by omega) (by omega))
  have HV0_12 := Lib.hid (HV0_11.out.turn ht (by omega))
  have HX1_12 := Lib.hid (HX1_11.out.turn ht (by omega))
  have HG0_12 := Lib.hid (HG0_11.out.turn ht (by omega))
  clear ho ht HR0_11 HR1_11 HB_11 HV0_11 HX0_11 HX1_11 HG0_11
  have hlb1 : l1.length ≤ 1048576 := by rw [HL1.out]; exact hn1
  go_wp2_with fail
  refine (mark_own _ _ _ l1 (1 + (l0.length : Int)) W12 HX1_12.out (hlb1) (by omega) (by omega)).mono ?_
  rintro e W13 ⟨rfl, ho, hg⟩
  have ht := turn_of hg (fun i hi => ⟨(HX1_12.out.1.lt i hi).1, HX1_12.out.2 i hi⟩)
  clear hg
  have s13 := ht.size
  have HR0_13 := Lib.hid (HR0_12.out.turn ht (by omega) (by omega))
  have HR1_13 := Lib.hid (HR1_12.out.turn ht (by omega) (by omega))
  have HB_13 := Lib.hid (below_turn HB_12.out ht (by omega) (by omega))
  have HV0_13 := Lib.hid (HV0_12.out.turn ht (by omega))
  have HG0_13 := Lib.hid (HG0_12.out.turn ht (by omega))
  clear ho ht HR0_12 HR1_12 HB_12 HV0_12 HX1_12 HG0_12
  go_wp2_with fail
  refine (eq_own _ _ _ _ _ _ _ _ _ _ r0 W13 HG0_13.out HV0_13.out (by omega)).mono ?_
  rintro e W14 ⟨rfl, hb⟩
  have s14 := hb.size
  have HR0_14 := Lib.hid (HR0_13.out.below (hb.mono (by omega)))
  have HR1_14 := Lib.hid (HR1_13.out.below (hb.mono (by omega)))
  have HB_14 := Lib.hid (HB_13.out.trans (hb.mono (by omega)))
  have HV0_14 := Lib.hid (HV0_13.out.below hb (by omega))
  have HG0_14 := Lib.hid (HG0_13.out.below hb (by omega))
  clear hb HR0_13 HR1_13 HB_13 HV0_13 HG0_13
  go_wp2_with fail
  refine (mark_own _ _ _ r0 (1) W14 HG0_14.out (by omega) (by omega) (by omega)).mono ?_
  rintro e W15 ⟨rfl, ho, hg⟩
  have ht := turn_of hg (fun i hi => ⟨(HG0_14.out.1.lt i hi).1, HG0_14.out.2 i hi⟩)
  clear hg
  have s15 := ht.size
  have HR0_15 := Lib.hid (HR0_14.out.turn ht (by omega) (by omega))
  have HR1_15 := Lib.hid (HR1_14.out.turn ht (by omega) (by omega))
  have HB_15 := Lib.hid (below_turn HB_14.out ht (by omega) (by omega))
  have HV0_15 := Lib.hid (HV0_14.out.turn ht (by omega))
  have HG0_15 := Lib.hid ho
  clear ho ht HR0_14 HR1_14 HB_14 HV0_14 HG0_14
  go_wp2_with fail
  refine (held_own _ _ _ _ _ (1) (r0.length) W15 HG0_15.out (by omega) (by omega) (by omega)).mono ?_
  rintro e w' ⟨rfl, rfl⟩
  go_wp2_with fail
  refine (toIntS_any a0 len0 cap0 l0 W15 (HR0_15.out.more (by omega)) hn0).mono ?_
  rintro e W16 ⟨rfl, ho, hb⟩
  have s16 := hb.size
  have HR0_16 := Lib.hid (HR0_15.out.below (hb.mono (by omega)))
  have HR1_16 := Lib.hid (HR1_15.out.below (hb.mono (by omega)))
  have HB_16 := Lib.hid (HB_15.out.trans (hb.mono (by omega)))
  have HV0_16 := Lib.hid (HV0_15.out.below hb (by omega))
  have HG0_16 := Lib.hid (HG0_15.out.below hb (by omega))
  have HZ0_16 := Lib.hid ho.two
  clear ho hb HR0_15 HR1_15 HB_15 HV0_15 HG0_15
  go_wp2_with fail
  refine (toIntS_any a1 len1 cap1 l1 W16 (HR1_16.out.more (by omega)) hn1).mono ?_
  rintro e W17 ⟨rfl, ho, hb⟩
  have s17 := hb.size
  have HR0_17 := Lib.hid (HR0_16.out.below (hb.mono (by omega)))
  have HR1_17 := Lib.hid (HR1_16.out.below (hb.mono (by omega)))
  have HB_17 := Lib.hid (HB_16.out.trans (hb.mono (by omega)))
  have HV0_17 := Lib.hid (HV0_16.out.below hb (by omega))
  have HG0_17 := Lib.hid (HG0_16.out.below hb (by omega))
  have HZ0_17 := Lib.hid (HZ0_16.out.below hb (by omega))
  have HZ1_17 := Lib.hid ho.two
  clear ho hb HR0_16 HR1_16 HB_16 HV0_16 HG0_16 HZ0_16
  go_wp2_with fail
  refine ((HI.out _ len0 len0 _ len1 len1 W17.heap.size W17 (HZ0_17.out.rd.more (by omega)) (HZ1_17.out.rd.more (by omega)) (Nat.le_refl _) hn0 hn1 (Nat.le_refl _) (by omega) (Nat.le_refl _) (by omega)).out).mono ?_
  rintro e W18 ⟨v0, rfl, ho0, hb⟩
  obtain ⟨A18_0, c18_0, rfl⟩ := ho0.slice
  have s18 := hb.size
  have HR0_18 := Lib.hid (HR0_17.out.below (hb.mono (by omega)))
  have HR1_18 := Lib.hid (HR1_17.out.below (hb.mono (by omega)))
  have HB_18 := Lib.hid (HB_17.out.trans (hb.mono (by omega)))
  have HV0_18 := Lib.hid (HV0_17.out.below hb (by omega))
  have HG0_18 := Lib.hid (HG0_17.out.below hb (by omega))
  have HZ0_18 := Lib.hid (HZ0_17.out.below hb (by omega))
  have HZ1_18 := Lib.hid (HZ1_17.out.below hb (by omega))
  have HH0_18 := Lib.hid ho0.two
  clear hb ho0 HR0_17 HR1_17 HB_17 HV0_17 HG0_17 HZ0_17 HZ1_17
  go_wp2_with fail
  refine (eq_own _ _ _ _ _ _ _ _ _ _ r0 W18 HH0_18.out HV0_18.out (by omega)).mono ?_
  rintro e W19 ⟨rfl, hb⟩
  have s19 := hb.size
  have HR0_19 := Lib.hid (HR0_18.out.below (hb.mono (by omega)))
  have HR1_19 := Lib.hid (HR1_18.out.below (hb.mono (by omega)))
  have HB_19 := Lib.hid (HB_18.out.trans (hb.mono (by omega)))
  have HV0_19 := Lib.hid (HV0_18.out.below hb (by omega))
  have HG0_19 := Lib.hid (HG0_18.out.below hb (by omega))
  have HZ0_19 := Lib.hid (HZ0_18.out.below hb (by omega))
  have HZ1_19 := Lib.hid (HZ1_18.out.below hb (by omega))
  have HH0_19 := Lib.hid (HH0_18.out.below hb (by omega))
  clear hb HR0_18 HR1_18 HB_18 HV0_18 HG0_18 HZ0_18 HZ1_18 HH0_18
  go_wp2_with fail
  refine (held_own _ _ _ _ _ (1) (r0.length) W19 HG0_19.out (by omega) (by omega) (by omega)).mono ?_
  rintro e w' ⟨rfl, rfl⟩
  go_wp2_with fail
  go_ret
  exact ⟨rfl, HB_19.out⟩
end Go.Proofs.Ytknjioibmgkpmaa
