/- The law on ThreeAll: the model and the program answer alike in every part, the arguments stay as they are, and the answer owns its memory. -/
import Derived.Test.YthfbllgfcidhkaaPick
namespace Go.Proofs.Ythfbllgfcidhkaa
open Go.ChangeShapes Go.WideShapes Go.ChangeAt Go.RowKit

set_option maxHeartbeats 2000000 in
theorem law_ThreeAll (a0 : Option Addr) (len0 cap0 : Nat) (z0 : List Int) (w : World) (w0 : IsRow .i64 w a0 len0 cap0 z0) :
    Calls Try.prog 5 #[.slice a0 len0 cap0] w fun e w' => e = .returned (.bool true) ∧ Below w.heap.size w w' := by
  obtain ⟨h0, hlc0, hcm0⟩ := rd_of_row w0
  clear w0
  generalize z0.take len0 = l0 at h0
  by_cases hn0 : len0 ≤ 1048576
  rotate_left
  · go_enter Try.func5, Try.ntmps5
    go_wp2_with fail
    go_ret
    exact ⟨rfl, Below.refl _ _⟩
  have hS := fun (A0 : Option Addr) (n0 c0 : Nat) (H : Nat) (W : World) (hR0 : Rd W H A0 n0 l0) (hH : H ≤ W.heap.size) (hn0 : n0 ≤ 1048576) => Lib.hid (alS_any A0 n0 c0 H l0 W hR0 hH hn0)
  have hI := fun (A0 : Option Addr) (n0 c0 : Nat) (H : Nat) (W : World) (hR0 : Rd W H A0 n0 l0) (hH : H ≤ W.heap.size) (hn0 : n0 ≤ 1048576) (hnc0 : n0 ≤ c0) (hcm0 : c0 ≤ 9223372036854775807) => Lib.hid (alI_any A0 n0 c0 H l0 W hR0 hH hn0 hnc0 hcm0)
  have hrl0 : tot (alR l0) ≤ 1048576 := alR_tot l0
  generalize alR l0 = r0 at hS hI hrl0
  generalize ringB l0 = r1 at hS hI
  have HS := Lib.hid hS
  have HI := Lib.hid hI
  have HL0 := Lib.hid h0.len
  clear hS hI
  go_enter Try.func5, Try.ntmps5
  have HR0_0 := Lib.hid h0
  clear h0
  have HB_0 := Lib.hid (Below.refl w.heap.size w)
  have hrb0 : sumTo r0 r0.length ≤ 1048576 := by have := hrl0; unfold tot at this; omega
  go_wp2_with fail
  refine (toIntS_any a0 len0 cap0 l0 w (HR0_0.out.more (by omega)) hn0).mono ?_
  rintro e W1 ⟨rfl, ho, hb⟩
  have s1 := hb.size
  have HR0_1 := Lib.hid (HR0_0.out.below (hb.mono (by omega)))
  have HB_1 := Lib.hid (HB_0.out.trans (hb.mono (by omega)))
  have HT0_1 := Lib.hid ho.two
  clear ho hb HR0_0 HB_0
  go_wp2_with fail
  refine ((HS.out _ len0 len0 W1.heap.size W1 (HT0_1.out.rd.more (by omega)) (Nat.le_refl _) hn0).out).mono ?_
  rintro e W2 ⟨v0, rfl, ho0, hb⟩
  obtain ⟨A2_0, c2_0, rfl, ho0⟩ := ho0
  have s2 := hb.size
  have HR0_2 := Lib.hid (HR0_1.out.below (hb.mono (by omega)))
  have HB_2 := Lib.hid (HB_1.out.trans (hb.mono (by omega)))
  have HT0_2 := Lib.hid (HT0_1.out.below hb (by omega))
  have HV0_2 := Lib.hid ho0
  clear hb ho0 HR0_1 HB_1 HT0_1
  clear HT0_2
  go_wp2_with fail
  refine (toIntS_any a0 len0 cap0 l0 W2 (HR0_2.out.more (by omega)) hn0).mono ?_
  rintro e W3 ⟨rfl, ho, hb⟩
  have s3 := hb.size
  have HR0_3 := Lib.hid (HR0_2.out.below (hb.mono (by omega)))
  have HB_3 := Lib.hid (HB_2.out.trans (hb.mono (by omega)))
  have HV0_3 := Lib.hid (HV0_2.out.below (hb.mono (by omega)))
  have HX0_3 := Lib.hid ho.two
  clear ho hb HR0_2 HB_2 HV0_2
  go_wp2_with fail
  refine ((HI.out _ len0 len0 W3.heap.size W3 (HX0_3.out.rd.more (by omega)) (Nat.le_refl _) hn0 (Nat.le_refl _) (by omega)).out).mono ?_
  rintro e W4 ⟨v0, rfl, ho0, hb⟩
  obtain ⟨A4_0, c4_0, rfl⟩ := ho0.slice
  have s4 := hb.size
  have HR0_4 := Lib.hid (HR0_3.out.below (hb.mono (by omega)))
  have HB_4 := Lib.hid (HB_3.out.trans (hb.mono (by omega)))
  have HV0_4 := Lib.hid (HV0_3.out.below (hb.mono (by omega)))
  have HX0_4 := Lib.hid (HX0_3.out.below hb (by omega))
  have HG0_4 := Lib.hid ho0
  clear hb ho0 HR0_3 HB_3 HV0_3 HX0_3
  go_wp2_with fail
  refine (eqSS_same _ _ _ _ _ _ _ _ r0 W4 HG0_4.out.rd.2 HV0_4.out (by omega)).mono ?_
  rintro e W5 ⟨rfl, hb⟩
  have s5 := hb.size
  have HR0_5 := Lib.hid (HR0_4.out.below (hb.mono (by omega)))
  have HB_5 := Lib.hid (HB_4.out.trans (hb.mono (by omega)))
  have HV0_5 := Lib.hid (HV0_4.out.below (hb.mono (by omega)))
  have HX0_5 := Lib.hid (HX0_4.out.below hb (by omega))
  have HG0_5 := Lib.hid (HG0_4.out.below hb (by omega))
  clear hb HR0_4 HB_4 HV0_4 HX0_4 HG0_4
  go_wp2_with fail
  refine (toIntS_any a0 len0 cap0 l0 W5 (HR0_5.out.more (by omega)) hn0).mono ?_
  rintro e W6 ⟨rfl, ho, hb⟩
  have s6 := hb.size
  have HR0_6 := Lib.hid (HR0_5.out.below (hb.mono (by omega)))
  have HB_6 := Lib.hid (HB_5.out.trans (hb.mono (by omega)))
  have HV0_6 := Lib.hid (HV0_5.out.below (hb.mono (by omega)))
  have HX0_6 := Lib.hid (HX0_5.out.below hb (by omega))
  have HG0_6 := Lib.hid (HG0_5.out.below hb (by omega))
  have HY0_6 := Lib.hid ho.two
  clear ho hb HR0_5 HB_5 HV0_5 HX0_5 HG0_5
  go_wp2_with fail
  refine (eq_own _ _ _ _ _ _ _ _ _ _ l0 W6 HX0_6.out HY0_6.out (by rw [HL0.out]; exact hn0)).mono ?_
  rintro e W7 ⟨rfl, hb⟩
  have s7 := hb.size
  have HR0_7 := Lib.hid (HR0_6.out.below (hb.mono (by omega)))
  have HB_7 := Lib.hid (HB_6.out.trans (hb.mono (by omega)))
  have HV0_7 := Lib.hid (HV0_6.out.below (hb.mono (by omega)))
  have HX0_7 := Lib.hid (HX0_6.out.below hb (by omega))
  have HG0_7 := Lib.hid (HG0_6.out.below hb (by omega))
  have HY0_7 := Lib.hid (HY0_6.out.below hb (by omega))
  clear hb HR0_6 HB_6 HV0_6 HX0_6 HG0_6 HY0_6
  clear HY0_7
  have hlb0 : l0.length ≤ 1048576 := by rw [HL0.out]; exact hn0
  go_wp2_with fail
  refine (mark_own _ _ _ l0 (1) W7 HX0_7.out (hlb0) (by omega) (by omega)).mono ?_
  rintro e W8 ⟨rfl, ho, hg⟩
  have ht := turn_of hg (fun i hi => ⟨(HX0_7.out.1.lt i hi).1, HX0_7.out.2 i hi⟩)
  clear hg
  have s8 := ht.size
  have HR0_8 := Lib.hid (HR0_7.out.turn ht (by omega) (by omega))
  have HB_8 := Lib.hid (below_turn HB_7.out ht (by omega) (by omega))
  have HV0_8 := Lib.hid (HV0_7.out.turn ht (by omega) (by omega))
  have HG0_8 := Lib.hid (HG0_7.out.turn ht (by omega))
  clear ho ht HR0_7 HB_7 HV0_7 HX0_7 HG0_7
  go_wp2_with fail
  refine (eqSS_same _ _ _ _ _ _ _ _ r0 W8 HG0_8.out.rd.2 HV0_8.out (by omega)).mono ?_
  rintro e W9 ⟨rfl, hb⟩
  have s9 := hb.size
  have HR0_9 := Lib.hid (HR0_8.out.below (hb.mono (by omega)))
  have HB_9 := Lib.hid (HB_8.out.trans (hb.mono (by omega)))
  have HV0_9 := Lib.hid (HV0_8.out.below (hb.mono (by omega)))
  have HG0_9 := Lib.hid (HG0_8.out.below hb (by omega))
  clear hb HR0_8 HB_8 HV0_8 HG0_8
  go_wp2_with fail
  refine (markSS_any _ _ _ r0 (1) W9 HG0_9.out (by omega) (by omega) (by omega)).mono ?_
  rintro e W10 ⟨rfl, ho, ht⟩
  have s10 := ht.size
  have HR0_10 := Lib.hid (HR0_9.out.turn ht (by omega) (by omega))
  have HB_10 := Lib.hid (below_turn HB_9.out ht (by omega) (by omega))
  have HV0_10 := Lib.hid (HV0_9.out.turn ht (by omega) (by omega))
  have HG0_10 := Lib.hid ho
  clear ho ht HR0_9 HB_9 HV0_9 HG0_9
  go_wp2_with fail
  refine (heldSS_any _ _ _ _ r0 (1) W10 HG0_10.out.rd.2 (by omega) (by omega) (by omega)).mono ?_
  rintro e w' ⟨rfl, rfl⟩
  go_wp2_with fail
  refine (toIntS_any a0 len0 cap0 l0 W10 (HR0_10.out.more (by omega)) hn0).mono ?_
  rintro e W11 ⟨rfl, ho, hb⟩
  have s11 := hb.size
  have HR0_11 := Lib.hid (HR0_10.out.below (hb.mono (by omega)))
  have HB_11 := Lib.hid (HB_10.out.trans (hb.mono (by omega)))
  have HV0_11 := Lib.hid (HV0_10.out.below (hb.mono (by omega)))
  have HG0_11 := Lib.hid (HG0_10.out.below hb (by omega))
  have HZ0_11 := Lib.hid ho.two
  clear ho hb HR0_10 HB_10 HV0_10 HG0_10
  go_wp2_with fail
  refine ((HI.out _ len0 len0 W11.heap.size W11 (HZ0_11.out.rd.more (by omega)) (Nat.le_refl _) hn0 (Nat.le_refl _) (by omega)).out).mono ?_
  rintro e W12 ⟨v0, rfl, ho0, hb⟩
  obtain ⟨A12_0, c12_0, rfl⟩ := ho0.slice
  have s12 := hb.size
  have HR0_12 := Lib.hid (HR0_11.out.below (hb.mono (by omega)))
  have HB_12 := Lib.hid (HB_11.out.trans (hb.mono (by omega)))
  have HV0_12 := Lib.hid (HV0_11.out.below (hb.mono (by omega)))
  have HG0_12 := Lib.hid (HG0_11.out.below hb (by omega))
  have HZ0_12 := Lib.hid (HZ0_11.out.below hb (by omega))
  have HH0_12 := Lib.hid ho0
  clear hb ho0 HR0_11 HB_11 HV0_11 HG0_11 HZ0_11
  go_wp2_with fail
  refine (eqSS_same _ _ _ _ _ _ _ _ r0 W12 HH0_12.out.rd.2 HV0_12.out (by omega)).mono ?_
  rintro e W13 ⟨rfl, hb⟩
  have s13 := hb.size
  have HR0_13 := Lib.hid (HR0_12.out.below (hb.mono (by omega)))
  have HB_13 := Lib.hid (HB_12.out.trans (hb.mono (by omega)))
  have HV0_13 := Lib.hid (HV0_12.out.below (hb.mono (by omega)))
  have HG0_13 := Lib.hid (HG0_12.out.below hb (by omega))
  have HZ0_13 := Lib.hid (HZ0_12.out.below hb (by omega))
  have HH0_13 := Lib.hid (HH0_12.out.below hb (by omega))
  clear hb HR0_12 HB_12 HV0_12 HG0_12 HZ0_12 HH0_12
  go_wp2_with fail
  refine (heldSS_any _ _ _ _ r0 (1) W13 HG0_13.out.rd.2 (by omega) (by omega) (by omega)).mono ?_
  rintro e w' ⟨rfl, rfl⟩
  go_wp2_with fail
  go_ret
  exact ⟨rfl, HB_13.out⟩
end Go.Proofs.Ythfbllgfcidhkaa
