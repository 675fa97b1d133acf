/- The law on PatternFree: the model and the program answer alike in every part, the arguments stay as they are, and the answer owns its memory. -/
import Derived.Test.YtkahnepkafjkpaaDoorPnF
namespace Go.Proofs.YtkahnepkafjkpaaDoor
open Go.ChangeShapes Go.WideShapes Go.ChangeAt Go.RowKit

set_option maxHeartbeats 2000000 in
theorem law_PatternFree (a0 : Int) (a1 : Option Addr) (len1 cap1 : Nat) (z1 : List Int) (w : World) (_ : (Lit.int .i64 a0).wf = true) (w1 : IsRow .i64 w a1 len1 cap1 z1) (hTAB : Tab w) :
    Calls Tryd.prog 7 #[.int .i64 a0, .slice a1 len1 cap1] w fun e w' => e = .returned (.bool true) ∧ Below w.heap.size w w' := by
  obtain ⟨h1, hlc1, hcm1⟩ := rd_of_row w1
  clear w1
  generalize z1.take len1 = l1 at h1
  by_cases hn1 : len1 ≤ 1048576
  rotate_left
  · go_enter Tryd.func7, Tryd.ntmps7
    go_wp2_with fail
    go_ret
    exact ⟨rfl, Below.refl _ _⟩
  have hS := fun (A1 : Option Addr) (n1 c1 : Nat) (H : Nat) (W : World) (hR1 : Rd W H A1 n1 l1) (hH : H ≤ W.heap.size) (hn1 : n1 ≤ 1048576) => Lib.hid (freS_any A1 n1 c1 H a0 l1 W hR1 hH hn1)
  have hI := fun (A1 : Option Addr) (n1 c1 : Nat) (H : Nat) (W : World) (hR1 : Rd W H A1 n1 l1) (hH : H ≤ W.heap.size) (hn1 : n1 ≤ 1048576) (hnc1 : n1 ≤ c1) (hcm1 : c1 ≤ 9223372036854775807) (hTB : Tab W) => Lib.hid (freI_any A1 n1 c1 H a0 l1 W hR1 hH hn1 hnc1 hcm1 hTB)
  generalize freR a0 l1 = r0 at hS hI
  generalize freB a0 l1 = r1 at hS hI
  have HS := Lib.hid hS
  have HI := Lib.hid hI
  have HL1 := Lib.hid h1.len
  clear hS hI
  go_enter Tryd.func7, Tryd.ntmps7
  have HR1_0 := Lib.hid h1
  clear h1
  have hT2 := hTAB.1
  have HT_0 := Lib.hid hTAB
  clear hTAB
  have HB_0 := Lib.hid (Below.refl w.heap.size w)
  go_wp2_with fail
  refine (toIntS_any a1 len1 cap1 l1 w (HR1_0.out.more (by omega)) hn1).mono ?_
  rintro e W1 ⟨rfl, ho, hb⟩
  have s1 := hb.size
  have HR1_1 := Lib.hid (HR1_0.out.below (hb.mono (by omega)))
  have HT_1 := Lib.hid (HT_0.out.on hb)
  have HB_1 := Lib.hid (HB_0.out.trans (hb.mono (by omega)))
  have HT1_1 := Lib.hid ho.two
  clear ho hb HR1_0 HT_0 HB_0
  go_wp2_with fail
  refine ((HS.out _ len1 len1 W1.heap.size W1 (HT1_1.out.rd.more (by omega)) (Nat.le_refl _) hn1).out).mono ?_
  rintro e W2 ⟨rfl, hb⟩
  have s2 := hb.size
  have HR1_2 := Lib.hid (HR1_1.out.below (hb.mono (by omega)))
  have HT_2 := Lib.hid (HT_1.out.on hb)
  have HB_2 := Lib.hid (HB_1.out.trans (hb.mono (by omega)))
  have HT1_2 := Lib.hid (HT1_1.out.below hb (by omega))
  clear hb  HR1_1 HT_1 HB_1 HT1_1
  clear HT1_2
  go_wp2_with fail
  refine (toIntS_any a1 len1 cap1 l1 W2 (HR1_2.out.more (by omega)) hn1).mono ?_
  rintro e W3 ⟨rfl, ho, hb⟩
  have s3 := hb.size
  have HR1_3 := Lib.hid (HR1_2.out.below (hb.mono (by omega)))
  have HT_3 := Lib.hid (HT_2.out.on hb)
  have HB_3 := Lib.hid (HB_2.out.trans (hb.mono (by omega)))
  have HX1_3 := Lib.hid ho.two
  clear ho hb HR1_2 HT_2 HB_2
  go_wp2_with fail
  refine ((HI.out _ len1 len1 W3.heap.size W3 (HX1_3.out.rd.more (by omega)) (Nat.le_refl _) hn1 (Nat.le_refl _) (by omega) HT_3.out).out).mono ?_
  rintro e W4 ⟨rfl, hb⟩
  have s4 := hb.size
  have HR1_4 := Lib.hid (HR1_3.out.below (hb.mono (by omega)))
  have HT_4 := Lib.hid (HT_3.out.on hb)
  have HB_4 := Lib.hid (HB_3.out.trans (hb.mono (by omega)))
  have HX1_4 := Lib.hid (HX1_3.out.below hb (by omega))
  clear hb  HR1_3 HT_3 HB_3 HX1_3
  go_wp2_with fail
  refine (toIntS_any a1 len1 cap1 l1 W4 (HR1_4.out.more (by omega)) hn1).mono ?_
  rintro e W5 ⟨rfl, ho, hb⟩
  have s5 := hb.size
  have HR1_5 := Lib.hid (HR1_4.out.below (hb.mono (by omega)))
  have HT_5 := Lib.hid (HT_4.out.on hb)
  have HB_5 := Lib.hid (HB_4.out.trans (hb.mono (by omega)))
  have HX1_5 := Lib.hid (HX1_4.out.below hb (by omega))
  have HY1_5 := Lib.hid ho.two
  clear ho hb HR1_4 HT_4 HB_4 HX1_4
  go_wp2_with fail
  refine (eq_own _ _ _ _ _ _ _ _ _ _ l1 W5 HX1_5.out HY1_5.out (by rw [HL1.out]; exact hn1)).mono ?_
  rintro e W6 ⟨rfl, hb⟩
  have s6 := hb.size
  have HR1_6 := Lib.hid (HR1_5.out.below (hb.mono (by omega)))
  have HT_6 := Lib.hid (HT_5.out.on hb)
  have HB_6 := Lib.hid (HB_5.out.trans (hb.mono (by omega)))
  have HX1_6 := Lib.hid (HX1_5.out.below hb (by omega))
  have HY1_6 := Lib.hid (HY1_5.out.below hb (by omega))
  clear hb HR1_5 HT_5 HB_5 HX1_5 HY1_5
  clear HY1_6
  go_wp2_with fail
  go_ret
  exact ⟨rfl, HB_6.out⟩
end Go.Proofs.YtkahnepkafjkpaaDoor
