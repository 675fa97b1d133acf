/- The law on WeaveSum: the model and the program answer alike in every part, the arguments stay as they are, and the answer owns its memory. -/
import Derived.Test.YtgkafomenbbdcaaWvY0
namespace Go.Proofs.Ytgkafomenbbdcaa
open Go.ChangeShapes Go.WideShapes Go.ChangeAt Go.RowKit

set_option maxHeartbeats 2000000 in
theorem law_WeaveSum (a0 : Int) (a1 : Option Addr) (len1 cap1 : Nat) (z1 : List Int) (a2 : Option Addr) (len2 cap2 : Nat) (z2 : List Int) (w : World) (_ : (Lit.int .i64 a0).wf = true) (w1 : IsRow .i64 w a1 len1 cap1 z1) (w2 : IsRow .i64 w a2 len2 cap2 z2) :
    Calls Try.prog 16 #[.int .i64 a0, .slice a1 len1 cap1, .slice a2 len2 cap2] w fun e w' => e = .returned (.bool true) ∧ Below w.heap.size w w' := by
  obtain ⟨h1, hlc1, hcm1⟩ := rd_of_row w1
  clear w1
  generalize z1.take len1 = l1 at h1
  obtain ⟨h2, hlc2, hcm2⟩ := rd_of_row w2
  clear w2
  generalize z2.take len2 = l2 at h2
  by_cases hn1 : len1 ≤ 1048576
  rotate_left
  · go_enter Try.func16, Try.ntmps16
    go_wp2_with fail
    go_ret
    exact ⟨rfl, Below.refl _ _⟩
  by_cases hn2 : len2 ≤ 1048576
  rotate_left
  · go_enter Try.func16, Try.ntmps16
    go_wp2_with fail
    go_ret
    exact ⟨rfl, Below.refl _ _⟩
  have hS := fun (A1 : Option Addr) (n1 c1 : Nat) (A2 : Option Addr) (n2 c2 : Nat) (H : Nat) (W : World) (hR1 : Rd W H A1 n1 l1) (hR2 : Rd W H A2 n2 l2) (hH : H ≤ W.heap.size) (hn1 : n1 ≤ 1048576) (hn2 : n2 ≤ 1048576) => Lib.hid (wsS_any A1 n1 c1 A2 n2 c2 H a0 l1 l2 W hR1 hR2 hH hn1 hn2)
  have hI := fun (A1 : Option Addr) (n1 c1 : Nat) (A2 : Option Addr) (n2 c2 : Nat) (H : Nat) (W : World) (hR1 : Rd W H A1 n1 l1) (hR2 : Rd W H A2 n2 l2) (hH : H ≤ W.heap.size) (hn1 : n1 ≤ 1048576) (hn2 : n2 ≤ 1048576) (hnc1 : n1 ≤ c1) (hcm1 : c1 ≤ 9223372036854775807) (hnc2 : n2 ≤ c2) (hcm2 : c2 ≤ 9223372036854775807) => Lib.hid (wsI_any A1 n1 c1 A2 n2 c2 H a0 l1 l2 W hR1 hR2 hH hn1 hn2 hnc1 hcm1 hnc2 hcm2)
  generalize wsmR a0 l1 l2 = r0 at hS hI
  generalize wov a0 l1 l2 = r1 at hS hI
  have HS := Lib.hid hS
  have HI := Lib.hid hI
  have HL1 := Lib.hid h1.len
  have HL2 := Lib.hid h2.len
  clear hS hI
  go_enter Try.func16, Try.ntmps16
  have HR1_0 := Lib.hid h1
  have HR2_0 := Lib.hid h2
  clear h1 h2
  have HB_0 := Lib.hid (Below.refl w.heap.size w)
  go_wp2_with fail
  refine (toIntS_any a1 len1 cap1 l1 w (HR1_0.out.more (by omega)) hn1).mono ?_
  rintro e W1 ⟨rfl, ho, hb⟩
  have s1 := hb.size
  have HR1_1 := Lib.hid (HR1_0.out.below (hb.mono (by omega)))
  have HR2_1 := Lib.hid (HR2_0.out.below (hb.mono (by omega)))
  have HB_1 := Lib.hid (HB_0.out.trans (hb.mono (by omega)))
  have HT1_1 := Lib.hid ho.two
  clear ho hb HR1_0 HR2_0 HB_0
  go_wp2_with fail
  refine (toIntS_any a2 len2 cap2 l2 W1 (HR2_1.out.more (by omega)) hn2).mono ?_
  rintro e W2 ⟨rfl, ho, hb⟩
  have s2 := hb.size
  have HR1_2 := Lib.hid (HR1_1.out.below (hb.mono (by omega)))
  have HR2_2 := Lib.hid (HR2_1.out.below (hb.mono (by omega)))
  have HB_2 := Lib.hid (HB_1.out.trans (hb.mono (by omega)))
  have HT1_2 := Lib.hid (HT1_1.out.below hb (by omega))
  have HT2_2 := Lib.hid ho.two
  clear ho hb HR1_1 HR2_1 HB_1 HT1_1
  go_wp2_with fail
  refine ((HS.out _ len1 len1 _ len2 len2 W2.heap.size W2 (HT1_2.out.rd.more (by omega)) (HT2_2.out.rd.more (by omega)) (Nat.le_refl _) hn1 hn2).out).mono ?_
  rintro e W3 ⟨rfl, hb⟩
  have s3 := hb.size
  have HR1_3 := Lib.hid (HR1_2.out.below (hb.mono (by omega)))
  have HR2_3 := Lib.hid (HR2_2.out.below (hb.mono (by omega)))
  have HB_3 := Lib.hid (HB_2.out.trans (hb.mono (by omega)))
  have HT1_3 := Lib.hid (HT1_2.out.below hb (by omega))
  have HT2_3 := Lib.hid (HT2_2.out.below hb (by omega))
  clear hb  HR1_2 HR2_2 HB_2 HT1_2 HT2_2
  clear HT1_3
  clear HT2_3
  go_wp2_with fail
  refine (toIntS_any a1 len1 cap1 l1 W3 (HR1_3.out.more (by omega)) hn1).mono ?_
  rintro e W4 ⟨rfl, ho, hb⟩
  have s4 := hb.size
  have HR1_4 := Lib.hid (HR1_3.out.below (hb.mono (by omega)))
  have HR2_4 := Lib.hid (HR2_3.out.below (hb.mono (by omega)))
  have HB_4 := Lib.hid (HB_3.out.trans (hb.mono (by omega)))
  have HX1_4 := Lib.hid ho.two
  clear ho hb HR1_3 HR2_3 HB_3
  go_wp2_with fail
  refine (toIntS_any a2 len2 cap2 l2 W4 (HR2_4.out.more (by omega)) hn2).mono ?_
  rintro e W5 ⟨rfl, ho, hb⟩
  have s5 := hb.size
  have HR1_5 := Lib.hid (HR1_4.out.below (hb.mono (by omega)))
  have HR2_5 := Lib.hid (HR2_4.out.below (hb.mono (by omega)))
  have HB_5 := Lib.hid (HB_4.out.trans (hb.mono (by omega)))
  have HX1_5 := Lib.hid (HX1_4.out.below hb (by omega))
  have HX2_5 := Lib.hid ho.two
  clear ho hb HR1_4 HR2_4 HB_4 HX1_4
  go_wp2_with fail
  refine ((HI.out _ len1 len1 _ len2 len2 W5.heap.size W5 (HX1_5.out.rd.more (by omega)) (HX2_5.out.rd.more (by omega)) (Nat.le_refl _) hn1 hn2 (Nat.le_refl _) (by omega) (Nat.le_refl _) (by omega)).out).mono ?_
  rintro e W6 ⟨rfl, hb⟩
  have s6 := hb.size
  have HR1_6 := Lib.hid (HR1_5.out.below (hb.mono (by omega)))
  have HR2_6 := Lib.hid (HR2_5.out.below (hb.mono (by omega)))
  have HB_6 := Lib.hid (HB_5.out.trans (hb.mono (by omega)))
  have HX1_6 := Lib.hid (HX1_5.out.below hb (by omega))
  have HX2_6 := Lib.hid (HX2_5.out.below hb (by omega))
  clear hb  HR1_5 HR2_5 HB_5 HX1_5 HX2_5
  go_wp2_with fail
  refine (toIntS_any a1 len1 cap1 l1 W6 (HR1_6.out.more (by omega)) hn1).mono ?_
  rintro e W7 ⟨rfl, ho, hb⟩
  have s7 := hb.size
  have HR1_7 := Lib.hid (HR1_6.out.below (hb.mono (by omega)))
  have HR2_7 := Lib.hid (HR2_6.out.below (hb.mono (by omega)))
  have HB_7 := Lib.hid (HB_6.out.trans (hb.mono (by omega)))
  have HX1_7 := Lib.hid (HX1_6.out.below hb (by omega))
  have HX2_7 := Lib.hid (HX2_6.out.below hb (by omega))
  have HY1_7 := Lib.hid ho.two
  clear ho hb HR1_6 HR2_6 HB_6 HX1_6 HX2_6
  go_wp2_with fail
  refine (eq_own _ _ _ _ _ _ _ _ _ _ l1 W7 HX1_7.out HY1_7.out (by rw [HL1.out]; exact hn1)).mono ?_
  rintro e W8 ⟨rfl, hb⟩
  have s8 := hb.size
  have HR1_8 := Lib.hid (HR1_7.out.below (hb.mono (by omega)))
  have HR2_8 := Lib.hid (HR2_7.out.below (hb.mono (by omega)))
  have HB_8 := Lib.hid (HB_7.out.trans (hb.mono (by omega)))
  have HX1_8 := Lib.hid (HX1_7.out.below hb (by omega))
  have HX2_8 := Lib.hid (HX2_7.out.below hb (by omega))
  have HY1_8 := Lib.hid (HY1_7.out.below hb (by omega))
  clear hb HR1_7 HR2_7 HB_7 HX1_7 HX2_7 HY1_7
  clear HY1_8
  go_wp2_with fail
  refine (toIntS_any a2 len2 cap2 l2 W8 (HR2_8.out.more (by omega)) hn2).mono ?_
  rintro e W9 ⟨rfl, ho, hb⟩
  have s9 := hb.size
  have HR1_9 := Lib.hid (HR1_8.out.below (hb.mono (by omega)))
  have HR2_9 := Lib.hid (HR2_8.out.below (hb.mono (by omega)))
  have HB_9 := Lib.hid (HB_8.out.trans (hb.mono (by omega)))
  have HX1_9 := Lib.hid (HX1_8.out.below hb (by omega))
  have HX2_9 := Lib.hid (HX2_8.out.below hb (by omega))
  have HY2_9 := Lib.hid ho.two
  clear ho hb HR1_8 HR2_8 HB_8 HX1_8 HX2_8
  go_wp2_with fail
  refine (eq_own _ _ _ _ _ _ _ _ _ _ l2 W9 HX2_9.out HY2_9.out (by rw [HL2.out]; exact hn2)).mono ?_
  rintro e W10 ⟨rfl, hb⟩
  have s10 := hb.size
  have HR1_10 := Lib.hid (HR1_9.out.below (hb.mono (by omega)))
  have HR2_10 := Lib.hid (HR2_9.out.below (hb.mono (by omega)))
  have HB_10 := Lib.hid (HB_9.out.trans (hb.mono (by omega)))
  have HX1_10 := Lib.hid (HX1_9.out.below hb (by omega))
  have HX2_10 := Lib.hid (HX2_9.out.below hb (by omega))
  have HY2_10 := Lib.hid (HY2_9.out.below hb (by omega))
  clear hb HR1_9 HR2_9 HB_9 HX1_9 HX2_9 HY2_9
  clear HY2_10
  go_wp2_with fail
  go_ret
  exact ⟨rfl, HB_10.out⟩
end Go.Proofs.Ytgkafomenbbdcaa
