/- The law on WeaveAll: the model and the program answer alike in every part, the arguments stay as they are, and the answer owns its memory. -/
import Derived.Test.YtpfdlgofkcpglaaDoorWC
namespace Go.Proofs.YtpfdlgofkcpglaaDoor
open Go.ChangeShapes Go.WideShapes Go.ChangeAt Go.RowKit

set_option maxHeartbeats 2000000 in
theorem law_WeaveAll (a0 : Int) (a1 : Option Addr) (len1 cap1 : Nat) (z1 : List Int) (a2 : Option Addr) (len2 cap2 : Nat) (z2 : List Int) (w : World) (_ : (Lit.int .i64 a0).wf = true) (w1 : IsRow .i64 w a1 len1 cap1 z1) (w2 : IsRow .i64 w a2 len2 cap2 z2) (hTAB : Tab w) :
    Calls Tryd.prog 16 #[.int .i64 a0, .slice a1 len1 cap1, .slice a2 len2 cap2] w fun e w' => e = .returned (.bool true) ∧ Below w.heap.size w w' := by
  obtain ⟨h1, hlc1, hcm1⟩ := rd_of_row w1
  clear w1
  generalize z1.take len1 = l1 at h1
  obtain ⟨h2, hlc2, hcm2⟩ := rd_of_row w2
  clear w2
  generalize z2.take len2 = l2 at h2
  by_cases hn1 : len1 ≤ 1048576
  rotate_left
  · go_enter Tryd.func16, Tryd.ntmps16
    go_wp2_with fail
    go_ret
    exact ⟨rfl, Below.refl _ _⟩
  by_cases hn2 : len2 ≤ 1048576
  rotate_left
  · go_enter Tryd.func16, Tryd.ntmps16
    go_wp2_with fail
    go_ret
    exact ⟨rfl, Below.refl _ _⟩
  have hS := fun (A1 : Option Addr) (n1 c1 : Nat) (A2 : Option Addr) (n2 c2 : Nat) (H : Nat) (W : World) (hR1 : Rd W H A1 n1 l1) (hR2 : Rd W H A2 n2 l2) (hH : H ≤ W.heap.size) (hn1 : n1 ≤ 1048576) (hn2 : n2 ≤ 1048576) (hnc1 : n1 ≤ c1) (hcm1 : c1 ≤ 9223372036854775807) (hnc2 : n2 ≤ c2) (hcm2 : c2 ≤ 9223372036854775807) => Lib.hid (waS_any A1 n1 c1 A2 n2 c2 H a0 l1 l2 W hR1 hR2 hH hn1 hn2 hnc1 hcm1 hnc2 hcm2)
  have hI := fun (A1 : Option Addr) (n1 c1 : Nat) (A2 : Option Addr) (n2 c2 : Nat) (H : Nat) (W : World) (hR1 : Rd W H A1 n1 l1) (hR2 : Rd W H A2 n2 l2) (hH : H ≤ W.heap.size) (hn1 : n1 ≤ 1048576) (hn2 : n2 ≤ 1048576) (hnc1 : n1 ≤ c1) (hcm1 : c1 ≤ 9223372036854775807) (hnc2 : n2 ≤ c2) (hcm2 : c2 ≤ 9223372036854775807) (hTB : Tab W) => Lib.hid (waI_any A1 n1 c1 A2 n2 c2 H a0 l1 l2 W hR1 hR2 hH hn1 hn2 hnc1 hcm1 hnc2 hcm2 hTB)
  have hrl0 : tot (waR a0 l1 l2) ≤ 1048576 := waR_tot a0 l1 l2
  generalize waR a0 l1 l2 = r0 at hS hI hrl0
  generalize wov a0 l1 l2 = r1 at hS hI
  have HS := Lib.hid hS
  have HI := Lib.hid hI
  have HL1 := Lib.hid h1.len
  have HL2 := Lib.hid h2.len
  clear hS hI
  go_enter Tryd.func16, Tryd.ntmps16
  have HR1_0 := Lib.hid h1
  have HR2_0 := Lib.hid h2
  clear h1 h2
  have hT2 := hTAB.1
  have HT_0 := Lib.hid hTAB
  clear hTAB
  have HB_0 := Lib.hid (Below.refl w.heap.size w)
  have hrb0 : sumTo r0 r0.length ≤ 1048576 := by have := hrl0; unfold tot at this; omega
  go_wp2_with fail
  refine (toIntS_any a1 len1 cap1 l1 w (HR1_0.out.more (by omega)) hn1).mono ?_
  rintro e W1 ⟨rfl, ho, hb⟩
  have s1 := hb.size
  have HR1_1 := Lib.hid (HR1_0.out.below (hb.mono (by omega)))
  have HR2_1 := Lib.hid (HR2_0.out.below (hb.mono (by omega)))
  have HT_1 := Lib.hid (HT_0.out.on hb)
  have HB_1 := Lib.hid (HB_0.out.trans (hb.mono (by omega)))
  have HT1_1 := Lib.hid ho.two
  clear ho hb HR1_0 HR2_0 HT_0 HB_0
  go_wp2_with fail
  refine (toIntS_any a2 len2 cap2 l2 W1 (HR2_1.out.more (by omega)) hn2).mono ?_
  rintro e W2 ⟨rfl, ho, hb⟩
  have s2 := hb.size
  have HR1_2 := Lib.hid (HR1_1.out.below (hb.mono (by omega)))
  have HR2_2 := Lib.hid (HR2_1.out.below (hb.mono (by omega)))
  have HT_2 := Lib.hid (HT_1.out.on hb)
  have HB_2 := Lib.hid (HB_1.out.trans (hb.mono (by omega)))
  have HT1_2 := Lib.hid (HT1_1.out.below hb (by omega))
  have HT2_2 := Lib.hid ho.two
  clear ho hb HR1_1 HR2_1 HT_1 HB_1 HT1_1
  go_wp2_with fail
  refine ((HS.out _ len1 len1 _ len2 len2 W2.heap.size W2 (HT1_2.out.rd.more (by omega)) (HT2_2.out.rd.more (by omega)) (Nat.le_refl _) hn1 hn2 (Nat.le_refl _) (by omega) (Nat.le_refl _) (by omega)).out).mono ?_
  rintro e W3 ⟨v0, rfl, ho0, hb⟩
  obtain ⟨A3_0, c3_0, rfl, ho0⟩ := ho0
  have s3 := hb.size
  have HR1_3 := Lib.hid (HR1_2.out.below (hb.mono (by omega)))
  have HR2_3 := Lib.hid (HR2_2.out.below (hb.mono (by omega)))
  have HT_3 := Lib.hid (HT_2.out.on hb)
  have HB_3 := Lib.hid (HB_2.out.trans (hb.mono (by omega)))
  have HT1_3 := Lib.hid (HT1_2.out.below hb (by omega))
  have HT2_3 := Lib.hid (HT2_2.out.below hb (by omega))
  have HV0_3 := Lib.hid ho0
  clear hb ho0 HR1_2 HR2_2 HT_2 HB_2 HT1_2 HT2_2
  clear HT1_3
  clear HT2_3
  go_wp2_with fail
  refine (toIntS_any a1 len1 cap1 l1 W3 (HR1_3.out.more (by omega)) hn1).mono ?_
  rintro e W4 ⟨rfl, ho, hb⟩
  have s4 := hb.size
  have HR1_4 := Lib.hid (HR1_3.out.below (hb.mono (by omega)))
  have HR2_4 := Lib.hid (HR2_3.out.below (hb.mono (by omega)))
  have HT_4 := Lib.hid (HT_3.out.on hb)
  have HB_4 := Lib.hid (HB_3.out.trans (hb.mono (by omega)))
  have HV0_4 := Lib.hid (HV0_3.out.below (hb.mono (by omega)))
  have HX1_4 := Lib.hid ho.two
  clear ho hb HR1_3 HR2_3 HT_3 HB_3 HV0_3
  go_wp2_with fail
  refine (toIntS_any a2 len2 cap2 l2 W4 (HR2_4.out.more (by omega)) hn2).mono ?_
  rintro e W5 ⟨rfl, ho, hb⟩
  have s5 := hb.size
  have HR1_5 := Lib.hid (HR1_4.out.below (hb.mono (by omega)))
  have HR2_5 := Lib.hid (HR2_4.out.below (hb.mono (by omega)))
  have HT_5 := Lib.hid (HT_4.out.on hb)
  have HB_5 := Lib.hid (HB_4.out.trans (hb.mono (by omega)))
  have HV0_5 := Lib.hid (HV0_4.out.below (hb.mono (by omega)))
  have HX1_5 := Lib.hid (HX1_4.out.below hb (by omega))
  have HX2_5 := Lib.hid ho.two
  clear ho hb HR1_4 HR2_4 HT_4 HB_4 HV0_4 HX1_4
  go_wp2_with fail
  refine ((HI.out _ len1 len1 _ len2 len2 W5.heap.size W5 (HX1_5.out.rd.more (by omega)) (HX2_5.out.rd.more (by omega)) (Nat.le_refl _) hn1 hn2 (Nat.le_refl _) (by omega) (Nat.le_refl _) (by omega) HT_5.out).out).mono ?_
  rintro e W6 ⟨v0, rfl, ho0, hb⟩
  obtain ⟨A6_0, c6_0, rfl⟩ := ho0.slice
  have s6 := hb.size
  have HR1_6 := Lib.hid (HR1_5.out.below (hb.mono (by omega)))
  have HR2_6 := Lib.hid (HR2_5.out.below (hb.mono (by omega)))
  have HT_6 := Lib.hid (HT_5.out.on hb)
  have HB_6 := Lib.hid (HB_5.out.trans (hb.mono (by omega)))
  have HV0_6 := Lib.hid (HV0_5.out.below (hb.mono (by omega)))
  have HX1_6 := Lib.hid (HX1_5.out.below hb (by omega))
  have HX2_6 := Lib.hid (HX2_5.out.below hb (by omega))
  have HG0_6 := Lib.hid ho0
  clear hb ho0 HR1_5 HR2_5 HT_5 HB_5 HV0_5 HX1_5 HX2_5
  go_wp2_with fail
  refine (eqSS_same _ _ _ _ _ _ _ _ r0 W6 HG0_6.out.rd.2 HV0_6.out (by omega)).mono ?_
  rintro e W7 ⟨rfl, hb⟩
  have s7 := hb.size
  have HR1_7 := Lib.hid (HR1_6.out.below (hb.mono (by omega)))
  have HR2_7 := Lib.hid (HR2_6.out.below (hb.mono (by omega)))
  have HT_7 := Lib.hid (HT_6.out.on hb)
  have HB_7 := Lib.hid (HB_6.out.trans (hb.mono (by omega)))
  have HV0_7 := Lib.hid (HV0_6.out.below (hb.mono (by omega)))
  have HX1_7 := Lib.hid (HX1_6.out.below hb (by omega))
  have HX2_7 := Lib.hid (HX2_6.out.below hb (by omega))
  have HG0_7 := Lib.hid (HG0_6.out.below hb (by omega))
  clear hb HR1_6 HR2_6 HT_6 HB_6 HV0_6 HX1_6 HX2_6 HG0_6
  go_wp2_with fail
  refine (toIntS_any a1 len1 cap1 l1 W7 (HR1_7.out.more (by omega)) hn1).mono ?_
  rintro e W8 ⟨rfl, ho, hb⟩
  have s8 := hb.size
  have HR1_8 := Lib.hid (HR1_7.out.below (hb.mono (by omega)))
  have HR2_8 := Lib.hid (HR2_7.out.below (hb.mono (by omega)))
  have HT_8 := Lib.hid (HT_7.out.on hb)
  have HB_8 := Lib.hid (HB_7.out.trans (hb.mono (by omega)))
  have HV0_8 := Lib.hid (HV0_7.out.below (hb.mono (by omega)))
  have HX1_8 := Lib.hid (HX1_7.out.below hb (by omega))
  have HX2_8 := Lib.hid (HX2_7.out.below hb (by omega))
  have HG0_8 := Lib.hid (HG0_7.out.below hb (by omega))
  have HY1_8 := Lib.hid ho.two
  clear ho hb HR1_7 HR2_7 HT_7 HB_7 HV0_7 HX1_7 HX2_7 HG0_7
  go_wp2_with fail
  refine (eq_own _ _ _ _ _ _ _ _ _ _ l1 W8 HX1_8.out HY1_8.out (by rw [HL1.out]; exact hn1)).mono ?_
  rintro e W9 ⟨rfl, hb⟩
  have s9 := hb.size
  have HR1_9 := Lib.hid (HR1_8.out.below (hb.mono (by omega)))
  have HR2_9 := Lib.hid (HR2_8.out.below (hb.mono (by omega)))
  have HT_9 := Lib.hid (HT_8.out.on hb)
  have HB_9 := Lib.hid (HB_8.out.trans (hb.mono (by omega)))
  have HV0_9 := Lib.hid (HV0_8.out.below (hb.mono (by omega)))
  have HX1_9 := Lib.hid (HX1_8.out.below hb (by omega))
  have HX2_9 := Lib.hid (HX2_8.out.below hb (by omega))
  have HG0_9 := Lib.hid (HG0_8.out.below hb (by omega))
  have HY1_9 := Lib.hid (HY1_8.out.below hb (by omega))
  clear hb HR1_8 HR2_8 HT_8 HB_8 HV0_8 HX1_8 HX2_8 HG0_8 HY1_8
  clear HY1_9
  go_wp2_with fail
  refine (toIntS_any a2 len2 cap2 l2 W9 (HR2_9.out.more (by omega)) hn2).mono ?_
  rintro e W10 ⟨rfl, ho, hb⟩
  have s10 := hb.size
  have HR1_10 := Lib.hid (HR1_9.out.below (hb.mono (by omega)))
  have HR2_10 := Lib.hid (HR2_9.out.below (hb.mono (by omega)))
  have HT_10 := Lib.hid (HT_9.out.on hb)
  have HB_10 := Lib.hid (HB_9.out.trans (hb.mono (by omega)))
  have HV0_10 := Lib.hid (HV0_9.out.below (hb.mono (by omega)))
  have HX1_10 := Lib.hid (HX1_9.out.below hb (by omega))
  have HX2_10 := Lib.hid (HX2_9.out.below hb (by omega))
  have HG0_10 := Lib.hid (HG0_9.out.below hb (by omega))
  have HY2_10 := Lib.hid ho.two
  clear ho hb HR1_9 HR2_9 HT_9 HB_9 HV0_9 HX1_9 HX2_9 HG0_9
  go_wp2_with fail
  refine (eq_own _ _ _ _ _ _ _ _ _ _ l2 W10 HX2_10.out HY2_10.out (by rw [HL2.out]; exact hn2)).mono ?_
  rintro e W11 ⟨rfl, hb⟩
  have s11 := hb.size
  have HR1_11 := Lib.hid (HR1_10.out.below (hb.mono (by omega)))
  have HR2_11 := Lib.hid (HR2_10.out.below (hb.mono (by omega)))
  have HT_11 := Lib.hid (HT_10.out.on hb)
  have HB_11 := Lib.hid (HB_10.out.trans (hb.mono (by omega)))
  have HV0_11 := Lib.hid (HV0_10.out.below (hb.mono (by omega)))
  have HX1_11 := Lib.hid (HX1_10.out.below hb (by omega))
  have HX2_11 := Lib.hid (HX2_10.out.below hb (by omega))
  have HG0_11 := Lib.hid (HG0_10.out.below hb (by omega))
  have HY2_11 := Lib.hid (HY2_10.out.below hb (by omega))
  clear hb HR1_10 HR2_10 HT_10 HB_10 HV0_10 HX1_10 HX2_10 HG0_10 HY2_10
  clear HY2_11
  have hlb1 : l1.length ≤ 1048576 := by rw [HL1.out]; exact hn1
  go_wp2_with fail
  refine (mark_own _ _ _ l1 (1) W11 HX1_11.out (hlb1) (by omega) (by omega)).mono ?_
  rintro e W12 ⟨rfl, ho, hg⟩
  have ht := turn_of hg (fun i hi => ⟨(HX1_11.out.1.lt i hi).1, HX1_11.out.2 i hi⟩)
  clear hg
  have s12 := ht.size
  have HR1_12 := Lib.hid (HR1_11.out.turn ht (by omega) (by omega))
  have HR2_12 := Lib.hid (HR2_11.out.turn ht (by omega) (by omega))
  have HT_12 := Lib.hid (HT_11.out.turn ht (by omega))
  have HB_12 := Lib.hid (below_turn HB_11.out ht (by omega) (by omega))
  have HV0_12 := Lib.hid (HV0_11.out.turn ht (by omega) (by omega))
  have HX2_12 := Lib.hid (HX2_11.out.turn ht (by omega))
  have HG0_12 := Lib.hid (HG0_11.out.turn ht (by omega))
  clear ho ht HR1_11 HR2_11 HT_11 HB_11 HV0_11 HX1_11 HX2_11 HG0_11
  have hlb2 : l2.length ≤ 1048576 := by rw [HL2.out]; exact hn2
  go_wp2_with fail
  refine (mark_own _ _ _ l2 (1 + (l1.length : Int)) W12 HX2_12.out (hlb2) (by omega) (by omega)).mono ?_
  rintro e W13 ⟨rfl, ho, hg⟩
  have ht := turn_of hg (fun i hi => ⟨(HX2_12.out.1.lt i hi).1, HX2_12.out.2 i hi⟩)
  clear hg
  have s13 := ht.size
  have HR1_13 := Lib.hid (HR1_12.out.turn ht (by omega) (by omega))
  have HR2_13 := Lib.hid (HR2_12.out.turn ht (by omega) (by omega))
  have HT_13 := Lib.hid (HT_12.out.turn ht (by omega))
  have HB_13 := Lib.hid (below_turn HB_12.out ht (by omega) (by omega))
  have HV0_13 := Lib.hid (HV0_12.out.turn ht (by omega) (by omega))
  have HG0_13 := Lib.hid (HG0_12.out.turn ht (by omega))
  clear ho ht HR1_12 HR2_12 HT_12 HB_12 HV0_12 HX2_12 HG0_12
  go_wp2_with fail
  refine (eqSS_same _ _ _ _ _ _ _ _ r0 W13 HG0_13.out.rd.2 HV0_13.out (by omega)).mono ?_
  rintro e W14 ⟨rfl, hb⟩
  have s14 := hb.size
  have HR1_14 := Lib.hid (HR1_13.out.below (hb.mono (by omega)))
  have HR2_14 := Lib.hid (HR2_13.out.below (hb.mono (by omega)))
  have HT_14 := Lib.hid (HT_13.out.on hb)
  have HB_14 := Lib.hid (HB_13.out.trans (hb.mono (by omega)))
  have HV0_14 := Lib.hid (HV0_13.out.below (hb.mono (by omega)))
  have HG0_14 := Lib.hid (HG0_13.out.below hb (by omega))
  clear hb HR1_13 HR2_13 HT_13 HB_13 HV0_13 HG0_13
  go_wp2_with fail
  refine (markSS_any _ _ _ r0 (1) W14 HG0_14.out (by omega) (by omega) (by omega)).mono ?_
  rintro e W15 ⟨rfl, ho, ht⟩
  have s15 := ht.size
  have HR1_15 := Lib.hid (HR1_14.out.turn ht (by omega) (by omega))
  have HR2_15 := Lib.hid (HR2_14.out.turn ht (by omega) (by omega))
  have HT_15 := Lib.hid (HT_14.out.turn ht (by omega))
  have HB_15 := Lib.hid (below_turn HB_14.out ht (by omega) (by omega))
  have HV0_15 := Lib.hid (HV0_14.out.turn ht (by omega) (by omega))
  have HG0_15 := Lib.hid ho
  clear ho ht HR1_14 HR2_14 HT_14 HB_14 HV0_14 HG0_14
  go_wp2_with fail
  refine (heldSS_any _ _ _ _ r0 (1) W15 HG0_15.out.rd.2 (by omega) (by omega) (by omega)).mono ?_
  rintro e w' ⟨rfl, rfl⟩
  go_wp2_with fail
  refine (toIntS_any a1 len1 cap1 l1 W15 (HR1_15.out.more (by omega)) hn1).mono ?_
  rintro e W16 ⟨rfl, ho, hb⟩
  have s16 := hb.size
  have HR1_16 := Lib.hid (HR1_15.out.below (hb.mono (by omega)))
  have HR2_16 := Lib.hid (HR2_15.out.below (hb.mono (by omega)))
  have HT_16 := Lib.hid (HT_15.out.on hb)
  have HB_16 := Lib.hid (HB_15.out.trans (hb.mono (by omega)))
  have HV0_16 := Lib.hid (HV0_15.out.below (hb.mono (by omega)))
  have HG0_16 := Lib.hid (HG0_15.out.below hb (by omega))
  have HZ1_16 := Lib.hid ho.two
  clear ho hb HR1_15 HR2_15 HT_15 HB_15 HV0_15 HG0_15
  go_wp2_with fail
  refine (toIntS_any a2 len2 cap2 l2 W16 (HR2_16.out.more (by omega)) hn2).mono ?_
  rintro e W17 ⟨rfl, ho, hb⟩
  have s17 := hb.size
  have HR1_17 := Lib.hid (HR1_16.out.below (hb.mono (by omega)))
  have HR2_17 := Lib.hid (HR2_16.out.below (hb.mono (by omega)))
  have HT_17 := Lib.hid (HT_16.out.on hb)
  have HB_17 := Lib.hid (HB_16.out.trans (hb.mono (by omega)))
  have HV0_17 := Lib.hid (HV0_16.out.below (hb.mono (by omega)))
  have HG0_17 := Lib.hid (HG0_16.out.below hb (by omega))
  have HZ1_17 := Lib.hid (HZ1_16.out.below hb (by omega))
  have HZ2_17 := Lib.hid ho.two
  clear ho hb HR1_16 HR2_16 HT_16 HB_16 HV0_16 HG0_16 HZ1_16
  go_wp2_with fail
  refine ((HI.out _ len1 len1 _ len2 len2 W17.heap.size W17 (HZ1_17.out.rd.more (by omega)) (HZ2_17.out.rd.more (by omega)) (Nat.le_refl _) hn1 hn2 (Nat.le_refl _) (by omega) (Nat.le_refl _) (by omega) HT_17.out).out).mono ?_
  rintro e W18 ⟨v0, rfl, ho0, hb⟩
  obtain ⟨A18_0, c18_0, rfl⟩ := ho0.slice
  have s18 := hb.size
  have HR1_18 := Lib.hid (HR1_17.out.below (hb.mono (by omega)))
  have HR2_18 := Lib.hid (HR2_17.out.below (hb.mono (by omega)))
  have HT_18 := Lib.hid (HT_17.out.on hb)
  have HB_18 := Lib.hid (HB_17.out.trans (hb.mono (by omega)))
  have HV0_18 := Lib.hid (HV0_17.out.below (hb.mono (by omega)))
  have HG0_18 := Lib.hid (HG0_17.out.below hb (by omega))
  have HZ1_18 := Lib.hid (HZ1_17.out.below hb (by omega))
  have HZ2_18 := Lib.hid (HZ2_17.out.below hb (by omega))
  have HH0_18 := Lib.hid ho0
  clear hb ho0 HR1_17 HR2_17 HT_17 HB_17 HV0_17 HG0_17 HZ1_17 HZ2_17
  go_wp2_with fail
  refine (eqSS_same _ _ _ _ _ _ _ _ r0 W18 HH0_18.out.rd.2 HV0_18.out (by omega)).mono ?_
  rintro e W19 ⟨rfl, hb⟩
  have s19 := hb.size
  have HR1_19 := Lib.hid (HR1_18.out.below (hb.mono (by omega)))
  have HR2_19 := Lib.hid (HR2_18.out.below (hb.mono (by omega)))
  have HT_19 := Lib.hid (HT_18.out.on hb)
  have HB_19 := Lib.hid (HB_18.out.trans (hb.mono (by omega)))
  have HV0_19 := Lib.hid (HV0_18.out.below (hb.mono (by omega)))
  have HG0_19 := Lib.hid (HG0_18.out.below hb (by omega))
  have HZ1_19 := Lib.hid (HZ1_18.out.below hb (by omega))
  have HZ2_19 := Lib.hid (HZ2_18.out.below hb (by omega))
  have HH0_19 := Lib.hid (HH0_18.out.below hb (by omega))
  clear hb HR1_18 HR2_18 HT_18 HB_18 HV0_18 HG0_18 HZ1_18 HZ2_18 HH0_18
  go_wp2_with fail
  refine (heldSS_any _ _ _ _ r0 (1) W19 HG0_19.out.rd.2 (by omega) (by omega) (by omega)).mono ?_
  rintro e w' ⟨rfl, rfl⟩
  go_wp2_with fail
  go_ret
  exact ⟨rfl, HB_19.out⟩
end Go.Proofs.YtpfdlgofkcpglaaDoor
