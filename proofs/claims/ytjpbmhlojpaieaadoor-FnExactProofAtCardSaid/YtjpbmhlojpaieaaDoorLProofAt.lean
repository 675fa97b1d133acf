/- The law on ProofAt: the model and the program answer alike in every part, the arguments stay as they are, and the answer owns its memory. -/
import Derived.Test.YtjpbmhlojpaieaaDoorPaT
import Derived.Test.YtjpbmhlojpaieaaDoorMA
namespace Go.Proofs.YtjpbmhlojpaieaaDoor
open Go.ChangeShapes Go.WideShapes Go.ChangeAt Go.RowKit

set_option maxHeartbeats 2000000 in
theorem law_ProofAt (a0 : Option Addr) (len0 cap0 : Nat) (z0 : List Int) (a1 : Option Addr) (len1 cap1 : Nat) (z1 : List Int) (w : World) (w0 : IsRow .i64 w a0 len0 cap0 z0) (w1 : IsRow .i64 w a1 len1 cap1 z1) (hTAB : Tab w) :
    Calls Tryd.prog 3 #[.slice a0 len0 cap0, .slice a1 len1 cap1] w fun e w' => e = .returned (.bool true) ∧ Below w.heap.size w w' := by
  obtain ⟨h0, hlc0, hcm0⟩ := rd_of_row w0
  clear w0
  generalize z0.take len0 = l0 at h0
  obtain ⟨h1, hlc1, hcm1⟩ := rd_of_row w1
  clear w1
  generalize z1.take len1 = l1 at h1
  by_cases hn0 : len0 ≤ 1048576
  rotate_left
  · go_enter Tryd.func3, Tryd.ntmps3
    go_wp2_with fail
    go_ret
    exact ⟨rfl, Below.refl _ _⟩
  by_cases hn1 : len1 ≤ 1048576
  rotate_left
  · go_enter Tryd.func3, Tryd.ntmps3
    go_wp2_with fail
    go_ret
    exact ⟨rfl, Below.refl _ _⟩
  have hS := fun (A0 : Option Addr) (n0 c0 : Nat) (A1 : Option Addr) (n1 c1 : Nat) (H : Nat) (W : World) (hR0 : Rd W H A0 n0 l0) (hR1 : Rd W H A1 n1 l1) (hH : H ≤ W.heap.size) (hn0 : n0 ≤ 1048576) (hn1 : n1 ≤ 1048576) => Lib.hid (paS_told A0 n0 c0 A1 n1 c1 H l0 l1 W hR0 hR1 hH hn0 hn1)
  have hI := fun (A0 : Option Addr) (n0 c0 : Nat) (A1 : Option Addr) (n1 c1 : Nat) (H : Nat) (W : World) (hR0 : Rd W H A0 n0 l0) (hR1 : Rd W H A1 n1 l1) (hH : H ≤ W.heap.size) (hn0 : n0 ≤ 1048576) (hn1 : n1 ≤ 1048576) (hnc0 : n0 ≤ c0) (hcm0 : c0 ≤ 9223372036854775807) (hnc1 : n1 ≤ c1) (hcm1 : c1 ≤ 9223372036854775807) (hTB : Tab W) => Lib.hid (paI_told A0 n0 c0 A1 n1 c1 H l0 l1 W hR0 hR1 hH hn0 hn1 hnc0 hcm0 hnc1 hcm1 hTB)
  generalize paT l0 l1 = r0 at hS hI
  generalize pfB l0 l1 = r1 at hS hI
  have HS := Lib.hid hS
  have HI := Lib.hid hI
  have HL0 := Lib.hid h0.len
  have HL1 := Lib.hid h1.len
  clear hS hI
  go_enter Tryd.func3, Tryd.ntmps3
  have HR0_0 := Lib.hid h0
  have HR1_0 := Lib.hid h1
  clear h0 h1
  have hT2 := hTAB.1
  have HT_0 := Lib.hid hTAB
  clear hTAB
  have HB_0 := Lib.hid (Below.refl w.heap.size w)
  go_wp2_with fail
  refine (toIntS_any a0 len0 cap0 l0 w (HR0_0.out.more (by omega)) hn0).mono ?_
  rintro e W1 ⟨rfl, ho, hb⟩
  have s1 := hb.size
  have HR0_1 := Lib.hid (HR0_0.out.below (hb.mono (by omega)))
  have HR1_1 := Lib.hid (HR1_0.out.below (hb.mono (by omega)))
  have HT_1 := Lib.hid (HT_0.out.on hb)
  have HB_1 := Lib.hid (HB_0.out.trans (hb.mono (by omega)))
  have HT0_1 := Lib.hid ho.two
  clear ho hb HR0_0 HR1_0 HT_0 HB_0
  go_wp2_with fail
  refine (toIntS_any a1 len1 cap1 l1 W1 (HR1_1.out.more (by omega)) hn1).mono ?_
  rintro e W2 ⟨rfl, ho, hb⟩
  have s2 := hb.size
  have HR0_2 := Lib.hid (HR0_1.out.below (hb.mono (by omega)))
  have HR1_2 := Lib.hid (HR1_1.out.below (hb.mono (by omega)))
  have HT_2 := Lib.hid (HT_1.out.on hb)
  have HB_2 := Lib.hid (HB_1.out.trans (hb.mono (by omega)))
  have HT0_2 := Lib.hid (HT0_1.out.below hb (by omega))
  have HT1_2 := Lib.hid ho.two
  clear ho hb HR0_1 HR1_1 HT_1 HB_1 HT0_1
  go_wp2_with fail
  refine ((HS.out _ len0 len0 _ len1 len1 W2.heap.size W2 (HT0_2.out.rd.more (by omega)) (HT1_2.out.rd.more (by omega)) (Nat.le_refl _) hn0 hn1).out).mono ?_
  rintro e W3 ⟨rfl, hb⟩
  have s3 := hb.size
  have HR0_3 := Lib.hid (HR0_2.out.below (hb.mono (by omega)))
  have HR1_3 := Lib.hid (HR1_2.out.below (hb.mono (by omega)))
  have HT_3 := Lib.hid (HT_2.out.on hb)
  have HB_3 := Lib.hid (HB_2.out.trans (hb.mono (by omega)))
  have HT0_3 := Lib.hid (HT0_2.out.below hb (by omega))
  have HT1_3 := Lib.hid (HT1_2.out.below hb (by omega))
  clear hb  HR0_2 HR1_2 HT_2 HB_2 HT0_2 HT1_2
  clear HT0_3
  clear HT1_3
  go_wp2_with fail
  refine (toIntS_any a0 len0 cap0 l0 W3 (HR0_3.out.more (by omega)) hn0).mono ?_
  rintro e W4 ⟨rfl, ho, hb⟩
  have s4 := hb.size
  have HR0_4 := Lib.hid (HR0_3.out.below (hb.mono (by omega)))
  have HR1_4 := Lib.hid (HR1_3.out.below (hb.mono (by omega)))
  have HT_4 := Lib.hid (HT_3.out.on hb)
  have HB_4 := Lib.hid (HB_3.out.trans (hb.mono (by omega)))
  have HX0_4 := Lib.hid ho.two
  clear ho hb HR0_3 HR1_3 HT_3 HB_3
  go_wp2_with fail
  refine (toIntS_any a1 len1 cap1 l1 W4 (HR1_4.out.more (by omega)) hn1).mono ?_
  rintro e W5 ⟨rfl, ho, hb⟩
  have s5 := hb.size
  have HR0_5 := Lib.hid (HR0_4.out.below (hb.mono (by omega)))
  have HR1_5 := Lib.hid (HR1_4.out.below (hb.mono (by omega)))
  have HT_5 := Lib.hid (HT_4.out.on hb)
  have HB_5 := Lib.hid (HB_4.out.trans (hb.mono (by omega)))
  have HX0_5 := Lib.hid (HX0_4.out.below hb (by omega))
  have HX1_5 := Lib.hid ho.two
  clear ho hb HR0_4 HR1_4 HT_4 HB_4 HX0_4
  go_wp2_with fail
  refine ((HI.out _ len0 len0 _ len1 len1 W5.heap.size W5 (HX0_5.out.rd.more (by omega)) (HX1_5.out.rd.more (by omega)) (Nat.le_refl _) hn0 hn1 (Nat.le_refl _) (by omega) (Nat.le_refl _) (by omega) HT_5.out).out).mono ?_
  rintro e W6 ⟨rfl, hb⟩
  have s6 := hb.size
  have HR0_6 := Lib.hid (HR0_5.out.below (hb.mono (by omega)))
  have HR1_6 := Lib.hid (HR1_5.out.below (hb.mono (by omega)))
  have HT_6 := Lib.hid (HT_5.out.on hb)
  have HB_6 := Lib.hid (HB_5.out.trans (hb.mono (by omega)))
  have HX0_6 := Lib.hid (HX0_5.out.below hb (by omega))
  have HX1_6 := Lib.hid (HX1_5.out.below hb (by omega))
  clear hb  HR0_5 HR1_5 HT_5 HB_5 HX0_5 HX1_5
  go_wp2_with fail
  refine (toIntS_any a0 len0 cap0 l0 W6 (HR0_6.out.more (by omega)) hn0).mono ?_
  rintro e W7 ⟨rfl, ho, hb⟩
  have s7 := hb.size
  have HR0_7 := Lib.hid (HR0_6.out.below (hb.mono (by omega)))
  have HR1_7 := Lib.hid (HR1_6.out.below (hb.mono (by omega)))
  have HT_7 := Lib.hid (HT_6.out.on hb)
  have HB_7 := Lib.hid (HB_6.out.trans (hb.mono (by omega)))
  have HX0_7 := Lib.hid (HX0_6.out.below hb (by omega))
  have HX1_7 := Lib.hid (HX1_6.out.below hb (by omega))
  have HY0_7 := Lib.hid ho.two
  clear ho hb HR0_6 HR1_6 HT_6 HB_6 HX0_6 HX1_6
  go_wp2_with fail
  refine (eq_own _ _ _ _ _ _ _ _ _ _ l0 W7 HX0_7.out HY0_7.out (by rw [HL0.out]; exact hn0)).mono ?_
  rintro e W8 ⟨rfl, hb⟩
  have s8 := hb.size
  have HR0_8 := Lib.hid (HR0_7.out.below (hb.mono (by omega)))
  have HR1_8 := Lib.hid (HR1_7.out.below (hb.mono (by omega)))
  have HT_8 := Lib.hid (HT_7.out.on hb)
  have HB_8 := Lib.hid (HB_7.out.trans (hb.mono (by omega)))
  have HX0_8 := Lib.hid (HX0_7.out.below hb (by omega))
  have HX1_8 := Lib.hid (HX1_7.out.below hb (by omega))
  have HY0_8 := Lib.hid (HY0_7.out.below hb (by omega))
  clear hb HR0_7 HR1_7 HT_7 HB_7 HX0_7 HX1_7 HY0_7
  clear HY0_8
  go_wp2_with fail
  refine (toIntS_any a1 len1 cap1 l1 W8 (HR1_8.out.more (by omega)) hn1).mono ?_
  rintro e W9 ⟨rfl, ho, hb⟩
  have s9 := hb.size
  have HR0_9 := Lib.hid (HR0_8.out.below (hb.mono (by omega)))
  have HR1_9 := Lib.hid (HR1_8.out.below (hb.mono (by omega)))
  have HT_9 := Lib.hid (HT_8.out.on hb)
  have HB_9 := Lib.hid (HB_8.out.trans (hb.mono (by omega)))
  have HX0_9 := Lib.hid (HX0_8.out.below hb (by omega))
  have HX1_9 := Lib.hid (HX1_8.out.below hb (by omega))
  have HY1_9 := Lib.hid ho.two
  clear ho hb HR0_8 HR1_8 HT_8 HB_8 HX0_8 HX1_8
  go_wp2_with fail
  refine (eq_own _ _ _ _ _ _ _ _ _ _ l1 W9 HX1_9.out HY1_9.out (by rw [HL1.out]; exact hn1)).mono ?_
  rintro e W10 ⟨rfl, hb⟩
  have s10 := hb.size
  have HR0_10 := Lib.hid (HR0_9.out.below (hb.mono (by omega)))
  have HR1_10 := Lib.hid (HR1_9.out.below (hb.mono (by omega)))
  have HT_10 := Lib.hid (HT_9.out.on hb)
  have HB_10 := Lib.hid (HB_9.out.trans (hb.mono (by omega)))
  have HX0_10 := Lib.hid (HX0_9.out.below hb (by omega))
  have HX1_10 := Lib.hid (HX1_9.out.below hb (by omega))
  have HY1_10 := Lib.hid (HY1_9.out.below hb (by omega))
  clear hb HR0_9 HR1_9 HT_9 HB_9 HX0_9 HX1_9 HY1_9
  clear HY1_10
  go_wp2_with fail
  go_ret
  exact ⟨rfl, HB_10.out⟩
end Go.Proofs.YtjpbmhlojpaieaaDoor
