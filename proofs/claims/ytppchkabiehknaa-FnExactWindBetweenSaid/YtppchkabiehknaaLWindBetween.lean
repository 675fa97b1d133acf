/- The law on WindBetween: the model and the program answer alike in every part, the arguments stay as they are, and the answer owns its memory. -/
import Derived.Test.YtppchkabiehknaaWbt
namespace Go.Proofs.Ytppchkabiehknaa
open Go.ChangeShapes Go.WideShapes Go.ChangeAt Go.RowKit

set_option maxHeartbeats 1000000 in
theorem law_WindBetween (a0 : Option Addr) (len0 cap0 : Nat) (z0 : List Int) (a1 : Option Addr) (len1 cap1 : Nat) (z1 : List Int) (a2 : Option Addr) (len2 cap2 : Nat) (z2 : List Int) (w : World) (w0 : IsRow .i64 w a0 len0 cap0 z0) (w1 : IsRow .i64 w a1 len1 cap1 z1) (w2 : IsRow .i64 w a2 len2 cap2 z2) :
    Calls Try.prog 11 #[.slice a0 len0 cap0, .slice a1 len1 cap1, .slice a2 len2 cap2] w fun e w' => e = .returned (.bool true) ∧ Below w.heap.size w w' := by
  obtain ⟨h0, hlc0, hcm0⟩ := rd_of_row w0
  clear w0
  generalize z0.take len0 = l0 at h0
  obtain ⟨h1, hlc1, hcm1⟩ := rd_of_row w1
  clear w1
  generalize z1.take len1 = l1 at h1
  obtain ⟨h2, hlc2, hcm2⟩ := rd_of_row w2
  clear w2
  generalize z2.take len2 = l2 at h2
  by_cases hn0 : len0 ≤ 1048576
  rotate_left
  · go_enter Try.func11, Try.ntmps11
    go_wp2_with fail
    go_ret
    exact ⟨rfl, Below.refl _ _⟩
  by_cases hn1 : len1 ≤ 1048576
  rotate_left
  · go_enter Try.func11, Try.ntmps11
    go_wp2_with fail
    go_ret
    exact ⟨rfl, Below.refl _ _⟩
  by_cases hn2 : len2 ≤ 1048576
  rotate_left
  · go_enter Try.func11, Try.ntmps11
    go_wp2_with fail
    go_ret
    exact ⟨rfl, Below.refl _ _⟩
  have hS := fun (A0 : Option Addr) (n0 c0 : Nat) (A1 : Option Addr) (n1 c1 : Nat) (A2 : Option Addr) (n2 c2 : Nat) (H : Nat) (W : World) (hR0 : Rd W H A0 n0 l0) (hR1 : Rd W H A1 n1 l1) (hR2 : Rd W H A2 n2 l2) (hH : H ≤ W.heap.size) (hn0 : n0 ≤ 1048576) (hn1 : n1 ≤ 1048576) (hn2 : n2 ≤ 1048576) => Lib.hid (wbS_any A0 n0 c0 A1 n1 c1 A2 n2 c2 H l0 l1 l2 W hR0 hR1 hR2 hH hn0 hn1 hn2)
  have hI := fun (A0 : Option Addr) (n0 c0 : Nat) (A1 : Option Addr) (n1 c1 : Nat) (A2 : Option Addr) (n2 c2 : Nat) (H : Nat) (W : World) (hR0 : Rd W H A0 n0 l0) (hR1 : Rd W H A1 n1 l1) (hR2 : Rd W H A2 n2 l2) (hH : H ≤ W.heap.size) (hn0 : n0 ≤ 1048576) (hn1 : n1 ≤ 1048576) (hn2 : n2 ≤ 1048576) (hnc0 : n0 ≤ c0) (hcm0 : c0 ≤ 9223372036854775807) (hnc1 : n1 ≤ c1) (hcm1 : c1 ≤ 9223372036854775807) (hnc2 : n2 ≤ c2) (hcm2 : c2 ≤ 9223372036854775807) => Lib.hid (wbI_any A0 n0 c0 A1 n1 c1 A2 n2 c2 H l0 l1 l2 W hR0 hR1 hR2 hH hn0 hn1 hn2 hnc0 hcm0 hnc1 hcm1 hnc2 hcm2)
  generalize wbR l0 l1 l2 = r0 at hS hI
  generalize wbB l0 l1 l2 = r1 at hS hI
  have HS := Lib.hid hS
  have HI := Lib.hid hI
  have HL0 := Lib.hid h0.len
  have HL1 := Lib.hid h1.len
  have HL2 := Lib.hid h2.len
  clear hS hI
  go_enter Try.func11, Try.ntmps11
  have HR0_0 := Lib.hid h0
  have HR1_0 := Lib.hid h1
  have HR2_0 := Lib.hid h2
  clear h0 h1 h2
  have HB_0 := Lib.hid (Below.refl w.heap.size w)
  go_wp2_with fail
  refine (toIntS_any a0 len0 cap0 l0 w (HR0_0.out.more (by omega)) hn0).mono ?_
  rintro e W1 ⟨rfl, ho, hb⟩
  have s1 := hb.size
  have t1 := (ho.lt _ rfl).2
  have HR0_1 := Lib.hid (HR0_0.out.below (hb.mono (by omega)))
  have HR1_1 := Lib.hid (HR1_0.out.below (hb.mono (by omega)))
  have HR2_1 := Lib.hid (HR2_0.out.below (hb.mono (by omega)))
  have HB_1 := Lib.hid (HB_0.out.trans (hb.mono (by omega)))
  have HT0_1 := Lib.hid ho.two
  clear ho hb HR0_0 HR1_0 HR2_0 HB_0
  go_wp2_with fail
  refine (toIntS_any a1 len1 cap1 l1 W1 (HR1_1.out.more (by omega)) hn1).mono ?_
  rintro e W2 ⟨rfl, ho, hb⟩
  have s2 := hb.size
  have t2 := (ho.lt _ rfl).2
  have HR0_2 := Lib.hid (HR0_1.out.below (hb.mono (by omega)))
  have HR1_2 := Lib.hid (HR1_1.out.below (hb.mono (by omega)))
  have HR2_2 := Lib.hid (HR2_1.out.below (hb.mono (by omega)))
  have HB_2 := Lib.hid (HB_1.out.trans (hb.mono (by omega)))
  have HT0_2 := Lib.hid (HT0_1.out.below hb (by omega))
  have HT1_2 := Lib.hid ho.two
  clear ho hb HR0_1 HR1_1 HR2_1 HB_1 HT0_1
  go_wp2_with fail
  refine (toIntS_any a2 len2 cap2 l2 W2 (HR2_2.out.more (by omega)) hn2).mono ?_
  rintro e W3 ⟨rfl, ho, hb⟩
  have s3 := hb.size
  have t3 := (ho.lt _ rfl).2
  have HR0_3 := Lib.hid (HR0_2.out.below (hb.mono (by omega)))
  have HR1_3 := Lib.hid (HR1_2.out.below (hb.mono (by omega)))
  have HR2_3 := Lib.hid (HR2_2.out.below (hb.mono (by omega)))
  have HB_3 := Lib.hid (HB_2.out.trans (hb.mono (by omega)))
  have HT0_3 := Lib.hid (HT0_2.out.below hb (by omega))
  have HT1_3 := Lib.hid (HT1_2.out.below hb (by omega))
  have HT2_3 := Lib.hid ho.two
  clear ho hb HR0_2 HR1_2 HR2_2 HB_2 HT0_2 HT1_2
  go_wp2_with fail
  refine ((HS.out _ len0 len0 _ len1 len1 _ len2 len2 W3.heap.size W3 (HT0_3.out.rd.more (by omega)) (HT1_3.out.rd.more (by omega)) (HT2_3.out.rd.more (by omega)) (Nat.le_refl _) hn0 hn1 hn2).out).mono ?_
  rintro e W4 ⟨rfl, hb⟩
  have s4 := hb.size
  have HR0_4 := Lib.hid (HR0_3.out.below (hb.mono (by omega)))
  have HR1_4 := Lib.hid (HR1_3.out.below (hb.mono (by omega)))
  have HR2_4 := Lib.hid (HR2_3.out.below (hb.mono (by omega)))
  have HB_4 := Lib.hid (HB_3.out.trans (hb.mono (by omega)))
  have HT0_4 := Lib.hid (HT0_3.out.below hb (by omega))
  have HT1_4 := Lib.hid (HT1_3.out.below hb (by omega))
  have HT2_4 := Lib.hid (HT2_3.out.below hb (by omega))
  clear hb  HR0_3 HR1_3 HR2_3 HB_3 HT0_3 HT1_3 HT2_3
  clear HT0_4
  clear HT1_4
  clear HT2_4
  go_wp2_with fail
  refine (toIntS_any a0 len0 cap0 l0 W4 (HR0_4.out.more (by omega)) hn0).mono ?_
  rintro e W5 ⟨rfl, ho, hb⟩
  have s5 := hb.size
  have t5 := (ho.lt _ rfl).2
  have HR0_5 := Lib.hid (HR0_4.out.below (hb.mono (by omega)))
  have HR1_5 := Lib.hid (HR1_4.out.below (hb.mono (by omega)))
  have HR2_5 := Lib.hid (HR2_4.out.below (hb.mono (by omega)))
  have HB_5 := Lib.hid (HB_4.out.trans (hb.mono (by omega)))
  have HX0_5 := Lib.hid ho.two
  clear ho hb HR0_4 HR1_4 HR2_4 HB_4
  go_wp2_with fail
  refine (toIntS_any a1 len1 cap1 l1 W5 (HR1_5.out.more (by omega)) hn1).mono ?_
  rintro e W6 ⟨rfl, ho, hb⟩
  have s6 := hb.size
  have t6 := (ho.lt _ rfl).2
  have HR0_6 := Lib.hid (HR0_5.out.below (hb.mono (by omega)))
  have HR1_6 := Lib.hid (HR1_5.out.below (hb.mono (by omega)))
  have HR2_6 := Lib.hid (HR2_5.out.below (hb.mono (by omega)))
  have HB_6 := Lib.hid (HB_5.out.trans (hb.mono (by omega)))
  have HX0_6 := Lib.hid (HX0_5.out.below hb (by omega))
  have HX1_6 := Lib.hid ho.two
  clear ho hb HR0_5 HR1_5 HR2_5 HB_5 HX0_5
  go_wp2_with fail
  refine (toIntS_any a2 len2 cap2 l2 W6 (HR2_6.out.more (by omega)) hn2).mono ?_
  rintro e W7 ⟨rfl, ho, hb⟩
  have s7 := hb.size
  have t7 := (ho.lt _ rfl).2
  have HR0_7 := Lib.hid (HR0_6.out.below (hb.mono (by omega)))
  have HR1_7 := Lib.hid (HR1_6.out.below (hb.mono (by omega)))
  have HR2_7 := Lib.hid (HR2_6.out.below (hb.mono (by omega)))
  have HB_7 := Lib.hid (HB_6.out.trans (hb.mono (by omega)))
  have HX0_7 := Lib.hid (HX0_6.out.below hb (by omega))
  have HX1_7 := Lib.hid (HX1_6.out.below hb (by omega))
  have HX2_7 := Lib.hid ho.two
  clear ho hb HR0_6 HR1_6 HR2_6 HB_6 HX0_6 HX1_6
  go_wp2_with fail
  refine ((HI.out _ len0 len0 _ len1 len1 _ len2 len2 W7.heap.size W7 (HX0_7.out.rd.more (by omega)) (HX1_7.out.rd.more (by omega)) (HX2_7.out.rd.more (by omega)) (Nat.le_refl _) hn0 hn1 hn2 (Nat.le_refl _) (by omega) (Nat.le_refl _) (by omega) (Nat.le_refl _) (by omega)).out).mono ?_
  rintro e W8 ⟨rfl, hb⟩
  have s8 := hb.size
  have HR0_8 := Lib.hid (HR0_7.out.below (hb.mono (by omega)))
  have HR1_8 := Lib.hid (HR1_7.out.below (hb.mono (by omega)))
  have HR2_8 := Lib.hid (HR2_7.out.below (hb.mono (by omega)))
  have HB_8 := Lib.hid (HB_7.out.trans (hb.mono (by omega)))
  have HX0_8 := Lib.hid (HX0_7.out.below hb (by omega))
  have HX1_8 := Lib.hid (HX1_7.out.below hb (by omega))
  have HX2_8 := Lib.hid (HX2_7.out.below hb (by omega))
  clear hb  HR0_7 HR1_7 HR2_7 HB_7 HX0_7 HX1_7 HX2_7
  go_wp2_with fail
  refine (toIntS_any a0 len0 cap0 l0 W8 (HR0_8.out.more (by omega)) hn0).mono ?_
  rintro e W9 ⟨rfl, ho, hb⟩
  have s9 := hb.size
  have t9 := (ho.lt _ rfl).2
  have HR0_9 := Lib.hid (HR0_8.out.below (hb.mono (by omega)))
  have HR1_9 := Lib.hid (HR1_8.out.below (hb.mono (by omega)))
  have HR2_9 := Lib.hid (HR2_8.out.below (hb.mono (by omega)))
  have HB_9 := Lib.hid (HB_8.out.trans (hb.mono (by omega)))
  have HX0_9 := Lib.hid (HX0_8.out.below hb (by omega))
  have HX1_9 := Lib.hid (HX1_8.out.below hb (by omega))
  have HX2_9 := Lib.hid (HX2_8.out.below hb (by omega))
  have HY0_9 := Lib.hid ho.two
  clear ho hb HR0_8 HR1_8 HR2_8 HB_8 HX0_8 HX1_8 HX2_8
  go_wp2_with fail
  refine (eq_own _ _ _ _ _ _ _ _ _ _ l0 W9 HX0_9.out HY0_9.out (by rw [HL0.out]; exact hn0)).mono ?_
  rintro e W10 ⟨rfl, hb⟩
  have s10 := hb.size
  have HR1_10 := Lib.hid (HR1_9.out.below (hb.mono (by omega)))
  have HR2_10 := Lib.hid (HR2_9.out.below (hb.mono (by omega)))
  have HB_10 := Lib.hid (HB_9.out.trans (hb.mono (by omega)))
  have HX1_10 := Lib.hid (HX1_9.out.below hb (by omega))
  have HX2_10 := Lib.hid (HX2_9.out.below hb (by omega))
  clear hb HR0_9 HR1_9 HR2_9 HB_9 HX0_9 HX1_9 HX2_9 HY0_9
  go_wp2_with fail
  refine (toIntS_any a1 len1 cap1 l1 W10 (HR1_10.out.more (by omega)) hn1).mono ?_
  rintro e W11 ⟨rfl, ho, hb⟩
  have s11 := hb.size
  have t11 := (ho.lt _ rfl).2
  have HR1_11 := Lib.hid (HR1_10.out.below (hb.mono (by omega)))
  have HR2_11 := Lib.hid (HR2_10.out.below (hb.mono (by omega)))
  have HB_11 := Lib.hid (HB_10.out.trans (hb.mono (by omega)))
  have HX1_11 := Lib.hid (HX1_10.out.below hb (by omega))
  have HX2_11 := Lib.hid (HX2_10.out.below hb (by omega))
  have HY1_11 := Lib.hid ho.two
  clear ho hb HR1_10 HR2_10 HB_10 HX1_10 HX2_10
  go_wp2_with fail
  refine (eq_own _ _ _ _ _ _ _ _ _ _ l1 W11 HX1_11.out HY1_11.out (by rw [HL1.out]; exact hn1)).mono ?_
  rintro e W12 ⟨rfl, hb⟩
  have s12 := hb.size
  have HR2_12 := Lib.hid (HR2_11.out.below (hb.mono (by omega)))
  have HB_12 := Lib.hid (HB_11.out.trans (hb.mono (by omega)))
  have HX2_12 := Lib.hid (HX2_11.out.below hb (by omega))
  clear hb HR1_11 HR2_11 HB_11 HX1_11 HX2_11 HY1_11
  go_wp2_with fail
  refine (toIntS_any a2 len2 cap2 l2 W12 (HR2_12.out.more (by omega)) hn2).mono ?_
  rintro e W13 ⟨rfl, ho, hb⟩
  have s13 := hb.size
  have t13 := (ho.lt _ rfl).2
  have HR2_13 := Lib.hid (HR2_12.out.below (hb.mono (by omega)))
  have HB_13 := Lib.hid (HB_12.out.trans (hb.mono (by omega)))
  have HX2_13 := Lib.hid (HX2_12.out.below hb (by omega))
  have HY2_13 := Lib.hid ho.two
  clear ho hb HR2_12 HB_12 HX2_12
  go_wp2_with fail
  refine (eq_own _ _ _ _ _ _ _ _ _ _ l2 W13 HX2_13.out HY2_13.out (by rw [HL2.out]; exact hn2)).mono ?_
  rintro e W14 ⟨rfl, hb⟩
  have s14 := hb.size
  have HB_14 := Lib.hid (HB_13.out.trans (hb.mono (by omega)))
  clear hb HR2_13 HB_13 HX2_13 HY2_13
  go_wp2_with fail
  go_ret
  exact ⟨rfl, HB_14.out⟩
end Go.Proofs.Ytppchkabiehknaa
