/- The law on ThreeSure: the model and the program answer alike in every part, the arguments stay as they are, and the answer owns its memory. -/
import Derived.Test.YthfbllgfcidhkaaSure
namespace Go.Proofs.Ythfbllgfcidhkaa
open Go.ChangeShapes Go.WideShapes Go.ChangeAt Go.RowKit

set_option maxHeartbeats 2000000 in
theorem law_ThreeSure (a0 : Int) (a1 : Option Addr) (len1 cap1 : Nat) (l1 : List (List Int)) (w : World) (_ : (Lit.int .i64 a0).wf = true) (w1 : IsRows w a1 len1 cap1 l1) :
    Calls Try.prog 7 #[.int .i64 a0, .slice a1 len1 cap1] w fun e w' => e = .returned (.bool true) ∧ Below w.heap.size w w' := by
  obtain ⟨h1, hlc1, hcm1⟩ := w1
  have hS := fun (A1 : Option Addr) (n1 c1 : Nat) (H : Nat) (W : World) (hR1 : RdS W H A1 n1 l1) (hH : H ≤ W.heap.size) (hn1 : tot l1 ≤ 1048576) => Lib.hid (suS_any A1 n1 c1 H a0 l1 W hR1 hH hn1)
  have hI := fun (A1 : Option Addr) (n1 c1 : Nat) (H : Nat) (W : World) (hR1 : RdS W H A1 n1 l1) (hH : H ≤ W.heap.size) (hn1 : tot l1 ≤ 1048576) => Lib.hid (suI_any A1 n1 c1 H a0 l1 W hR1 hH hn1 )
  have hrl0 : tot (suR a0 l1) ≤ 1048576 := suR_tot a0 l1
  generalize suR a0 l1 = r0 at hS hI hrl0
  generalize tel a0 l1 = r1 at hS hI
  have HS := Lib.hid hS
  have HI := Lib.hid hI
  have HL1 := Lib.hid h1.len
  clear hS hI
  go_enter Try.func7, Try.ntmps7
  go_wp2_with fail
  refine (szIntSS_any a1 len1 cap1 w.heap.size l1 w h1 (by omega)).mono ?_
  rintro e w' ⟨⟨r, rfl, hr1, hr2, hr3⟩, rfl⟩
  by_cases hr0 : 0 ≤ r
  rotate_left
  · go_wp2_with fail
    go_ret
    exact ⟨rfl, Below.refl _ _⟩
  have hn1 := hr1 hr0
  clear hr1
  have HR1_0 := Lib.hid h1
  clear h1
  have HB_0 := Lib.hid (Below.refl w.heap.size w)
  have hb1 : len1 ≤ 1048576 ∧ sumTo l1 l1.length ≤ 1048576 := by have := HL1.out; have := hn1; unfold tot at this; omega
  have hrb0 : sumTo r0 r0.length ≤ 1048576 := by have := hrl0; unfold tot at this; omega
  go_wp2_with fail
  refine (toIntSS_any a1 len1 cap1 w.heap.size l1 w HR1_0.out (by omega) hn1).mono ?_
  rintro e W1 ⟨rfl, ho, hb⟩
  have s1 := hb.size
  have HR1_1 := Lib.hid (HR1_0.out.below (hb.mono (by omega)))
  have HB_1 := Lib.hid (HB_0.out.trans (hb.mono (by omega)))
  have HT1_1 := Lib.hid ho
  clear ho hb HR1_0 HB_0
  go_wp2_with fail
  refine ((HS.out _ len1 len1 W1.heap.size W1 (HT1_1.out.rd.2.more (by omega)) (Nat.le_refl _) hn1).out).mono ?_
  rintro e W2 ⟨v0, rfl, ho0, hb⟩
  obtain ⟨A2_0, c2_0, rfl, ho0⟩ := ho0
  have s2 := hb.size
  have HR1_2 := Lib.hid (HR1_1.out.below (hb.mono (by omega)))
  have HB_2 := Lib.hid (HB_1.out.trans (hb.mono (by omega)))
  have HT1_2 := Lib.hid (HT1_1.out.below hb (by omega))
  have HV0_2 := Lib.hid ho0
  clear hb ho0 HR1_1 HB_1 HT1_1
  clear HT1_2
  go_wp2_with fail
  refine (toIntSS_any a1 len1 cap1 w.heap.size l1 W2 HR1_2.out (by omega) hn1).mono ?_
  rintro e W3 ⟨rfl, ho, hb⟩
  have s3 := hb.size
  have HR1_3 := Lib.hid (HR1_2.out.below (hb.mono (by omega)))
  have HB_3 := Lib.hid (HB_2.out.trans (hb.mono (by omega)))
  have HV0_3 := Lib.hid (HV0_2.out.below (hb.mono (by omega)))
  have HX1_3 := Lib.hid ho
  clear ho hb HR1_2 HB_2 HV0_2
  go_wp2_with fail
  refine ((HI.out _ len1 len1 W3.heap.size W3 (HX1_3.out.rd.2.more (by omega)) (Nat.le_refl _) hn1 ).out).mono ?_
  rintro e W4 ⟨v0, rfl, ho0, hb⟩
  obtain ⟨A4_0, c4_0, rfl⟩ := ho0.slice
  have s4 := hb.size
  have HR1_4 := Lib.hid (HR1_3.out.below (hb.mono (by omega)))
  have HB_4 := Lib.hid (HB_3.out.trans (hb.mono (by omega)))
  have HV0_4 := Lib.hid (HV0_3.out.below (hb.mono (by omega)))
  have HX1_4 := Lib.hid (HX1_3.out.below hb (by omega))
  have HG0_4 := Lib.hid ho0
  clear hb ho0 HR1_3 HB_3 HV0_3 HX1_3
  go_wp2_with fail
  refine (eqSS_same _ _ _ _ _ _ _ _ r0 W4 HG0_4.out.rd.2 HV0_4.out (by omega)).mono ?_
  rintro e W5 ⟨rfl, hb⟩
  have s5 := hb.size
  have HR1_5 := Lib.hid (HR1_4.out.below (hb.mono (by omega)))
  have HB_5 := Lib.hid (HB_4.out.trans (hb.mono (by omega)))
  have HV0_5 := Lib.hid (HV0_4.out.below (hb.mono (by omega)))
  have HX1_5 := Lib.hid (HX1_4.out.below hb (by omega))
  have HG0_5 := Lib.hid (HG0_4.out.below hb (by omega))
  clear hb HR1_4 HB_4 HV0_4 HX1_4 HG0_4
  go_wp2_with fail
  refine (toIntSS_any a1 len1 cap1 w.heap.size l1 W5 HR1_5.out (by omega) hn1).mono ?_
  rintro e W6 ⟨rfl, ho, hb⟩
  have s6 := hb.size
  have HR1_6 := Lib.hid (HR1_5.out.below (hb.mono (by omega)))
  have HB_6 := Lib.hid (HB_5.out.trans (hb.mono (by omega)))
  have HV0_6 := Lib.hid (HV0_5.out.below (hb.mono (by omega)))
  have HX1_6 := Lib.hid (HX1_5.out.below hb (by omega))
  have HG0_6 := Lib.hid (HG0_5.out.below hb (by omega))
  have HY1_6 := Lib.hid ho
  clear ho hb HR1_5 HB_5 HV0_5 HX1_5 HG0_5
  go_wp2_with fail
  refine (eqSS_same _ _ _ _ _ _ _ _ l1 W6 HX1_6.out.rd.2 HY1_6.out.rd.2 (hn1)).mono ?_
  rintro e W7 ⟨rfl, hb⟩
  have s7 := hb.size
  have HR1_7 := Lib.hid (HR1_6.out.below (hb.mono (by omega)))
  have HB_7 := Lib.hid (HB_6.out.trans (hb.mono (by omega)))
  have HV0_7 := Lib.hid (HV0_6.out.below (hb.mono (by omega)))
  have HX1_7 := Lib.hid (HX1_6.out.below hb (by omega))
  have HG0_7 := Lib.hid (HG0_6.out.below hb (by omega))
  have HY1_7 := Lib.hid (HY1_6.out.below hb (by omega))
  clear hb HR1_6 HB_6 HV0_6 HX1_6 HG0_6 HY1_6
  clear HY1_7
  go_wp2_with fail
  refine (markSS_any _ _ _ l1 (1) W7 HX1_7.out (hn1) (by omega) (by omega)).mono ?_
  rintro e W8 ⟨rfl, ho, ht⟩
  have s8 := ht.size
  have HR1_8 := Lib.hid (HR1_7.out.turn ht (by omega) (by omega))
  have HB_8 := Lib.hid (below_turn HB_7.out ht (by omega) (by omega))
  have HV0_8 := Lib.hid (HV0_7.out.turn ht (by omega) (by omega))
  have HG0_8 := Lib.hid (HG0_7.out.turn ht (by omega))
  clear ho ht HR1_7 HB_7 HV0_7 HX1_7 HG0_7
  go_wp2_with fail
  refine (eqSS_same _ _ _ _ _ _ _ _ r0 W8 HG0_8.out.rd.2 HV0_8.out (by omega)).mono ?_
  rintro e W9 ⟨rfl, hb⟩
  have s9 := hb.size
  have HR1_9 := Lib.hid (HR1_8.out.below (hb.mono (by omega)))
  have HB_9 := Lib.hid (HB_8.out.trans (hb.mono (by omega)))
  have HV0_9 := Lib.hid (HV0_8.out.below (hb.mono (by omega)))
  have HG0_9 := Lib.hid (HG0_8.out.below hb (by omega))
  clear hb HR1_8 HB_8 HV0_8 HG0_8
  go_wp2_with fail
  refine (markSS_any _ _ _ r0 (1) W9 HG0_9.out (by omega) (by omega) (by omega)).mono ?_
  rintro e W10 ⟨rfl, ho, ht⟩
  have s10 := ht.size
  have HR1_10 := Lib.hid (HR1_9.out.turn ht (by omega) (by omega))
  have HB_10 := Lib.hid (below_turn HB_9.out ht (by omega) (by omega))
  have HV0_10 := Lib.hid (HV0_9.out.turn ht (by omega) (by omega))
  have HG0_10 := Lib.hid ho
  clear ho ht HR1_9 HB_9 HV0_9 HG0_9
  go_wp2_with fail
  refine (heldSS_any _ _ _ _ r0 (1) W10 HG0_10.out.rd.2 (by omega) (by omega) (by omega)).mono ?_
  rintro e w' ⟨rfl, rfl⟩
  go_wp2_with fail
  refine (toIntSS_any a1 len1 cap1 w.heap.size l1 W10 HR1_10.out (by omega) hn1).mono ?_
  rintro e W11 ⟨rfl, ho, hb⟩
  have s11 := hb.size
  have HR1_11 := Lib.hid (HR1_10.out.below (hb.mono (by omega)))
  have HB_11 := Lib.hid (HB_10.out.trans (hb.mono (by omega)))
  have HV0_11 := Lib.hid (HV0_10.out.below (hb.mono (by omega)))
  have HG0_11 := Lib.hid (HG0_10.out.below hb (by omega))
  have HZ1_11 := Lib.hid ho
  clear ho hb HR1_10 HB_10 HV0_10 HG0_10
  go_wp2_with fail
  refine ((HI.out _ len1 len1 W11.heap.size W11 (HZ1_11.out.rd.2.more (by omega)) (Nat.le_refl _) hn1 ).out).mono ?_
  rintro e W12 ⟨v0, rfl, ho0, hb⟩
  obtain ⟨A12_0, c12_0, rfl⟩ := ho0.slice
  have s12 := hb.size
  have HR1_12 := Lib.hid (HR1_11.out.below (hb.mono (by omega)))
  have HB_12 := Lib.hid (HB_11.out.trans (hb.mono (by omega)))
  have HV0_12 := Lib.hid (HV0_11.out.below (hb.mono (by omega)))
  have HG0_12 := Lib.hid (HG0_11.out.below hb (by omega))
  have HZ1_12 := Lib.hid (HZ1_11.out.below hb (by omega))
  have HH0_12 := Lib.hid ho0
  clear hb ho0 HR1_11 HB_11 HV0_11 HG0_11 HZ1_11
  go_wp2_with fail
  refine (eqSS_same _ _ _ _ _ _ _ _ r0 W12 HH0_12.out.rd.2 HV0_12.out (by omega)).mono ?_
  rintro e W13 ⟨rfl, hb⟩
  have s13 := hb.size
  have HR1_13 := Lib.hid (HR1_12.out.below (hb.mono (by omega)))
  have HB_13 := Lib.hid (HB_12.out.trans (hb.mono (by omega)))
  have HV0_13 := Lib.hid (HV0_12.out.below (hb.mono (by omega)))
  have HG0_13 := Lib.hid (HG0_12.out.below hb (by omega))
  have HZ1_13 := Lib.hid (HZ1_12.out.below hb (by omega))
  have HH0_13 := Lib.hid (HH0_12.out.below hb (by omega))
  clear hb HR1_12 HB_12 HV0_12 HG0_12 HZ1_12 HH0_12
  go_wp2_with fail
  refine (heldSS_any _ _ _ _ r0 (1) W13 HG0_13.out.rd.2 (by omega) (by omega) (by omega)).mono ?_
  rintro e w' ⟨rfl, rfl⟩
  go_wp2_with fail
  go_ret
  exact ⟨rfl, HB_13.out⟩
end Go.Proofs.Ythfbllgfcidhkaa
