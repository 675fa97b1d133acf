/- The law on ProofClash: the model and the program answer alike in every part, the arguments stay as they are, and the answer owns its memory. -/
import Derived.Test.YtjpbmhlojpaieaaDoorClZ
import Derived.Test.YtjpbmhlojpaieaaDoorKit
namespace Go.Proofs.YtjpbmhlojpaieaaDoor
open Go.ChangeShapes Go.WideShapes Go.ChangeAt Go.RowKit

set_option maxHeartbeats 2000000 in
theorem law_ProofClash (a0 : Int) (a1 : Option Addr) (len1 cap1 : Nat) (l1 : List (List Int)) (w : World) (_ : (Lit.int .i64 a0).wf = true) (w1 : IsRows w a1 len1 cap1 l1) (hTAB : Tab w) :
    Calls Tryd.prog 5 #[.int .i64 a0, .slice a1 len1 cap1] w fun e w' => e = .returned (.bool true) ∧ Below w.heap.size w w' := by
  obtain ⟨h1, hlc1, hcm1⟩ := w1
  have hS := fun (A1 : Option Addr) (n1 c1 : Nat) (H : Nat) (W : World) (hR1 : RdS W H A1 n1 l1) (hH : H ≤ W.heap.size) (hn1 : tot l1 ≤ 1048576) => Lib.hid (ctS_any A1 n1 c1 H a0 l1 W hR1 hH hn1)
  have hI := fun (A1 : Option Addr) (n1 c1 : Nat) (H : Nat) (W : World) (hR1 : RdS W H A1 n1 l1) (hH : H ≤ W.heap.size) (hn1 : tot l1 ≤ 1048576) (hTB : Tab W) => Lib.hid (ctI_law A1 n1 c1 H a0 l1 W hR1 hH hn1  hTB)
  generalize ctT a0 l1 = r0 at hS hI
  generalize (ctF a0 l1).isSome = r1 at hS hI
  have HS := Lib.hid hS
  have HI := Lib.hid hI
  have HL1 := Lib.hid h1.len
  clear hS hI
  go_enter Tryd.func5, Tryd.ntmps5
  go_wp2_with fail
  refine (szIntSS_any a1 len1 cap1 w.heap.size l1 w h1 (by omega)).mono ?_
  rintro e w' ⟨⟨r, rfl, hr1, hr2, hr3⟩, rfl⟩
  by_cases hr0 : 0 ≤ r
  rotate_left
  · go_wp2_with fail
    go_ret
    exact ⟨rfl, Below.refl _ _⟩
  have hn1 := hr1 hr0
  clear hr1
  have HR1_0 := Lib.hid h1
  clear h1
  have hT2 := hTAB.1
  have HT_0 := Lib.hid hTAB
  clear hTAB
  have HB_0 := Lib.hid (Below.refl w.heap.size w)
  have hb1 : len1 ≤ 1048576 ∧ sumTo l1 l1.length ≤ 1048576 := by have := HL1.out; have := hn1; unfold tot at this; omega
  go_wp2_with fail
  refine (toIntSS_any a1 len1 cap1 w.heap.size l1 w HR1_0.out (by omega) hn1).mono ?_
  rintro e W1 ⟨rfl, ho, hb⟩
  have s1 := hb.size
  have HR1_1 := Lib.hid (HR1_0.out.below (hb.mono (by omega)))
  have HT_1 := Lib.hid (HT_0.out.on hb)
  have HB_1 := Lib.hid (HB_0.out.trans (hb.mono (by omega)))
  have HT1_1 := Lib.hid ho
  clear ho hb HR1_0 HT_0 HB_0
  go_wp2_with fail
  refine ((HS.out _ len1 len1 W1.heap.size W1 (HT1_1.out.rd.2.more (by omega)) (Nat.le_refl _) hn1).out).mono ?_
  rintro e W2 ⟨rfl, hb⟩
  have s2 := hb.size
  have HR1_2 := Lib.hid (HR1_1.out.below (hb.mono (by omega)))
  have HT_2 := Lib.hid (HT_1.out.on hb)
  have HB_2 := Lib.hid (HB_1.out.trans (hb.mono (by omega)))
  have HT1_2 := Lib.hid (HT1_1.out.below hb (by omega))
  clear hb  HR1_1 HT_1 HB_1 HT1_1
  clear HT1_2
  go_wp2_with fail
  refine (toIntSS_any a1 len1 cap1 w.heap.size l1 W2 HR1_2.out (by omega) hn1).mono ?_
  rintro e W3 ⟨rfl, ho, hb⟩
  have s3 := hb.size
  have HR1_3 := Lib.hid (HR1_2.out.below (hb.mono (by omega)))
  have HT_3 := Lib.hid (HT_2.out.on hb)
  have HB_3 := Lib.hid (HB_2.out.trans (hb.mono (by omega)))
  have HX1_3 := Lib.hid ho
  clear ho hb HR1_2 HT_2 HB_2
  go_wp2_with fail
  refine ((HI.out _ len1 len1 W3.heap.size W3 (HX1_3.out.rd.2.more (by omega)) (Nat.le_refl _) hn1  HT_3.out).out).mono ?_
  rintro e W4 ⟨rfl, hb⟩
  have s4 := hb.size
  have HR1_4 := Lib.hid (HR1_3.out.below (hb.mono (by omega)))
  have HT_4 := Lib.hid (HT_3.out.on hb)
  have HB_4 := Lib.hid (HB_3.out.trans (hb.mono (by omega)))
  have HX1_4 := Lib.hid (HX1_3.out.below hb (by omega))
  clear hb  HR1_3 HT_3 HB_3 HX1_3
  go_wp2_with fail
  refine (toIntSS_any a1 len1 cap1 w.heap.size l1 W4 HR1_4.out (by omega) hn1).mono ?_
  rintro e W5 ⟨rfl, ho, hb⟩
  have s5 := hb.size
  have HR1_5 := Lib.hid (HR1_4.out.below (hb.mono (by omega)))
  have HT_5 := Lib.hid (HT_4.out.on hb)
  have HB_5 := Lib.hid (HB_4.out.trans (hb.mono (by omega)))
  have HX1_5 := Lib.hid (HX1_4.out.below hb (by omega))
  have HY1_5 := Lib.hid ho
  clear ho hb HR1_4 HT_4 HB_4 HX1_4
  go_wp2_with fail
  refine (eqSS_same _ _ _ _ _ _ _ _ l1 W5 HX1_5.out.rd.2 HY1_5.out.rd.2 (hn1)).mono ?_
  rintro e W6 ⟨rfl, hb⟩
  have s6 := hb.size
  have HR1_6 := Lib.hid (HR1_5.out.below (hb.mono (by omega)))
  have HT_6 := Lib.hid (HT_5.out.on hb)
  have HB_6 := Lib.hid (HB_5.out.trans (hb.mono (by omega)))
  have HX1_6 := Lib.hid (HX1_5.out.below hb (by omega))
  have HY1_6 := Lib.hid (HY1_5.out.below hb (by omega))
  clear hb HR1_5 HT_5 HB_5 HX1_5 HY1_5
  clear HY1_6
  go_wp2_with fail
  go_ret
  exact ⟨rfl, HB_6.out⟩
end Go.Proofs.YtjpbmhlojpaieaaDoor
