/- The law on WindSums: the model and the program answer alike in every part, the arguments stay as they are, and the answer owns its memory. -/
import Derived.Test.YtppchkabiehknaaWsum
namespace Go.Proofs.Ytppchkabiehknaa
open Go.ChangeShapes Go.WideShapes Go.ChangeAt Go.RowKit

set_option maxHeartbeats 1000000 in
theorem law_WindSums (a0 : Int) (w : World) (_ : (Lit.int .i64 a0).wf = true) :
    Calls Try.prog 9 #[.int .i64 a0] w fun e w' => e = .returned (.bool true) ∧ Below w.heap.size w w' := by
  have hS := fun (W : World) => Lib.hid (wsS_any a0 W)
  have hI := fun (W : World) => Lib.hid (wsI_any a0 W)
  have hrl0 : (wsR a0).length ≤ 7 := wsR_length a0
  generalize wsR a0 = r0 at hS hI hrl0
  generalize wcB a0 = r1 at hS hI
  have HS := Lib.hid hS
  have HI := Lib.hid hI
  clear hS hI
  go_enter Try.func9, Try.ntmps9
  have HB_0 := Lib.hid (Below.refl w.heap.size w)
  go_wp2_with fail
  refine ((HS.out w).out).mono ?_
  rintro e W1 ⟨v0, rfl, ho0, hb⟩
  obtain ⟨A1_0, c1_0, rfl⟩ := ho0.slice
  have s1 := hb.size
  have HB_1 := Lib.hid (HB_0.out.trans (hb.mono (by omega)))
  have HV0_1 := Lib.hid ho0.two
  clear hb ho0 HB_0
  go_wp2_with fail
  refine ((HI.out W1).out).mono ?_
  rintro e W2 ⟨v0, rfl, ho0, hb⟩
  obtain ⟨A2_0, c2_0, rfl⟩ := ho0.slice
  have s2 := hb.size
  have HB_2 := Lib.hid (HB_1.out.trans (hb.mono (by omega)))
  have HV0_2 := Lib.hid (HV0_1.out.below hb (by omega))
  have HG0_2 := Lib.hid ho0.two
  clear hb ho0 HB_1 HV0_1
  go_wp2_with fail
  refine (eq_own _ _ _ _ _ _ _ _ _ _ r0 W2 HG0_2.out HV0_2.out (by omega)).mono ?_
  rintro e W3 ⟨rfl, hb⟩
  have s3 := hb.size
  have HB_3 := Lib.hid (HB_2.out.trans (hb.mono (by omega)))
  have HV0_3 := Lib.hid (HV0_2.out.below hb (by omega))
  have HG0_3 := Lib.hid (HG0_2.out.below hb (by omega))
  clear hb HB_2 HV0_2 HG0_2
  go_wp2_with fail
  refine (mark_own _ _ _ r0 (1) W3 HG0_3.out (by omega) (by omega) (by omega)).mono ?_
  rintro e W4 ⟨rfl, ho, hg⟩
  have s4 := hg.size
  have hlo := fun q hq => (HG0_3.out.1.lt q hq).1
  have hhi := fun q hq => HG0_3.out.2 q hq
  have HB_4 := Lib.hid (HB_3.out.grown hg (by omega) (by intro q hq; have := hlo q hq; omega))
  have HV0_4 := Lib.hid (HV0_3.out.grown hg (by intro q hq; have := hlo q hq; have := hhi q hq; omega))
  have HG0_4 := Lib.hid ho
  clear ho hg hlo hhi HB_3 HV0_3 HG0_3
  go_wp2_with fail
  refine (held_own _ _ _ _ _ (1) (r0.length) W4 HG0_4.out (by omega) (by omega) (by omega)).mono ?_
  rintro e w' ⟨rfl, rfl⟩
  go_wp2_with fail
  refine ((HI.out W4).out).mono ?_
  rintro e W5 ⟨v0, rfl, ho0, hb⟩
  obtain ⟨A5_0, c5_0, rfl⟩ := ho0.slice
  have s5 := hb.size
  have HB_5 := Lib.hid (HB_4.out.trans (hb.mono (by omega)))
  have HV0_5 := Lib.hid (HV0_4.out.below hb (by omega))
  have HG0_5 := Lib.hid (HG0_4.out.below hb (by omega))
  have HH0_5 := Lib.hid ho0.two
  clear hb ho0 HB_4 HV0_4 HG0_4
  go_wp2_with fail
  refine (eq_own _ _ _ _ _ _ _ _ _ _ r0 W5 HH0_5.out HV0_5.out (by omega)).mono ?_
  rintro e W6 ⟨rfl, hb⟩
  have s6 := hb.size
  have HB_6 := Lib.hid (HB_5.out.trans (hb.mono (by omega)))
  have HV0_6 := Lib.hid (HV0_5.out.below hb (by omega))
  have HG0_6 := Lib.hid (HG0_5.out.below hb (by omega))
  have HH0_6 := Lib.hid (HH0_5.out.below hb (by omega))
  clear hb HB_5 HV0_5 HG0_5 HH0_5
  go_wp2_with fail
  refine (held_own _ _ _ _ _ (1) (r0.length) W6 HG0_6.out (by omega) (by omega) (by omega)).mono ?_
  rintro e w' ⟨rfl, rfl⟩
  go_wp2_with fail
  go_ret
  exact ⟨rfl, HB_6.out⟩
end Go.Proofs.Ytppchkabiehknaa
