/- The law on TermArcs: the model and the program answer alike in every part, the arguments stay as they are, and the answer owns its memory. -/
import Derived.Test.YtdmlhkmahmgdlabDoorTa6
namespace Go.Proofs.YtdmlhkmahmgdlabDoor
open Go.ChangeShapes Go.WideShapes Go.ChangeAt Go.RowKit

set_option maxHeartbeats 2000000 in
theorem law_TermArcs (a0 : ByteArray) (w : World) (w0 : a0.size ≤ maxLen) (hTAB : Hand w) :
    Calls Tryd.prog 3 #[.string a0] w fun e w' => e = .returned (.bool true) ∧ Below w.heap.size w w' := by
  unfold maxLen at w0
  by_cases hn0 : a0.size ≤ 1048576
  rotate_left
  · have hn' : 1048576 < a0.size := by omega
    clear hn0
    go_enter Tryd.func3, Tryd.ntmps3
    go_wp2_with fail
    go_ret
    exact ⟨rfl, Below.refl _ _⟩
  have hS := fun (H : Nat) (W : World) (hH : H ≤ W.heap.size) (hn0 : a0.size ≤ 1048576) => Lib.hid (arcsS_law  H a0 W  hH  hn0)
  have hI := fun (H : Nat) (W : World) (hH : H ≤ W.heap.size) (hn0 : a0.size ≤ 1048576) (hTB : Hand W) => Lib.hid (arcsI_law  H a0 W  hH  hn0  hTB)
  have hrl0 : (tarcR a0.data.toList).length ≤ 128 := tarcR_length _
  generalize tarcR a0.data.toList = r0 at hS hI hrl0
  generalize tringB a0.data.toList = r1 at hS hI
  have HS := Lib.hid hS
  have HI := Lib.hid hI
  clear hS hI
  go_enter Tryd.func3, Tryd.ntmps3
  have hT2 := hTAB.1
  have HT_0 := Lib.hid hTAB
  clear hTAB
  have HB_0 := Lib.hid (Below.refl w.heap.size w)
  go_wp2_with fail
  refine ((HS.out  w.heap.size w  (Nat.le_refl _)  hn0).out).mono ?_
  rintro e W1 ⟨v0, rfl, ho0, hb⟩
  obtain ⟨A1_0, c1_0, rfl⟩ := ho0.slice
  have s1 := hb.size
  have HT_1 := Lib.hid (HT_0.out.on hb)
  have HB_1 := Lib.hid (HB_0.out.trans (hb.mono (by omega)))
  have HV0_1 := Lib.hid ho0.two
  clear hb ho0 HT_0 HB_0
  go_wp2_with fail
  refine ((HI.out  W1.heap.size W1  (Nat.le_refl _)  hn0  HT_1.out).out).mono ?_
  rintro e W2 ⟨v0, rfl, ho0, hb⟩
  obtain ⟨A2_0, c2_0, rfl⟩ := ho0.slice
  have s2 := hb.size
  have HT_2 := Lib.hid (HT_1.out.on hb)
  have HB_2 := Lib.hid (HB_1.out.trans (hb.mono (by omega)))
  have HV0_2 := Lib.hid (HV0_1.out.below hb (by omega))
  have HG0_2 := Lib.hid ho0.two
  clear hb ho0 HT_1 HB_1 HV0_1
  go_wp2_with fail
  refine (eq_own _ _ _ _ _ _ _ _ _ _ r0 W2 HG0_2.out HV0_2.out (by omega)).mono ?_
  rintro e W3 ⟨rfl, hb⟩
  have s3 := hb.size
  have HT_3 := Lib.hid (HT_2.out.on hb)
  have HB_3 := Lib.hid (HB_2.out.trans (hb.mono (by omega)))
  have HV0_3 := Lib.hid (HV0_2.out.below hb (by omega))
  have HG0_3 := Lib.hid (HG0_2.out.below hb (by omega))
  clear hb HT_2 HB_2 HV0_2 HG0_2
  go_wp2_with fail
  refine (mark_own _ _ _ r0 (1) W3 HG0_3.out (by omega) (by omega) (by omega)).mono ?_
  rintro e W4 ⟨rfl, ho, hg⟩
  have ht := turn_of hg (fun i hi => ⟨(HG0_3.out.1.lt i hi).1, HG0_3.out.2 i hi⟩)
  clear hg
  have s4 := ht.size
  have HT_4 := Lib.hid (HT_3.out.turn ht (by omega))
  have HB_4 := Lib.hid (below_turn HB_3.out ht (by omega) (by omega))
  have HV0_4 := Lib.hid (HV0_3.out.turn ht (by omega))
  have HG0_4 := Lib.hid ho
  clear ho ht HT_3 HB_3 HV0_3 HG0_3
  go_wp2_with fail
  refine (held_own _ _ _ _ _ (1) (r0.length) W4 HG0_4.out (by omega) (by omega) (by omega)).mono ?_
  rintro e w' ⟨rfl, rfl⟩
  go_wp2_with fail
  refine ((HI.out  W4.heap.size W4  (Nat.le_refl _)  hn0  HT_4.out).out).mono ?_
  rintro e W5 ⟨v0, rfl, ho0, hb⟩
  obtain ⟨A5_0, c5_0, rfl⟩ := ho0.slice
  have s5 := hb.size
  have HT_5 := Lib.hid (HT_4.out.on hb)
  have HB_5 := Lib.hid (HB_4.out.trans (hb.mono (by omega)))
  have HV0_5 := Lib.hid (HV0_4.out.below hb (by omega))
  have HG0_5 := Lib.hid (HG0_4.out.below hb (by omega))
  have HH0_5 := Lib.hid ho0.two
  clear hb ho0 HT_4 HB_4 HV0_4 HG0_4
  go_wp2_with fail
  refine (eq_own _ _ _ _ _ _ _ _ _ _ r0 W5 HH0_5.out HV0_5.out (by omega)).mono ?_
  rintro e W6 ⟨rfl, hb⟩
  have s6 := hb.size
  have HT_6 := Lib.hid (HT_5.out.on hb)
  have HB_6 := Lib.hid (HB_5.out.trans (hb.mono (by omega)))
  have HV0_6 := Lib.hid (HV0_5.out.below hb (by omega))
  have HG0_6 := Lib.hid (HG0_5.out.below hb (by omega))
  have HH0_6 := Lib.hid (HH0_5.out.below hb (by omega))
  clear hb HT_5 HB_5 HV0_5 HG0_5 HH0_5
  go_wp2_with fail
  refine (held_own _ _ _ _ _ (1) (r0.length) W6 HG0_6.out (by omega) (by omega) (by omega)).mono ?_
  rintro e w' ⟨rfl, rfl⟩
  go_wp2_with fail
  go_ret
  exact ⟨rfl, HB_6.out⟩
end Go.Proofs.YtdmlhkmahmgdlabDoor
