/- The law on TermOf: the model and the program answer alike in every part, the arguments stay as they are, and the answer owns its memory. -/
import Derived.Test.YtdmlhkmahmgdlabTo1
import Derived.Test.YtdmlhkmahmgdlabKit
namespace Go.Proofs.Ytdmlhkmahmgdlab
open Go.ChangeShapes Go.WideShapes Go.ChangeAt Go.RowKit

set_option maxHeartbeats 2000000 in
theorem law_TermOf (a0 : Option Addr) (len0 cap0 : Nat) (z0 : List Int) (w : World) (w0 : IsRow .i64 w a0 len0 cap0 z0) :
    Calls Try.prog 3 #[.slice a0 len0 cap0] w fun e w' => e = .returned (.bool true) ∧ Below w.heap.size w w' := by
  obtain ⟨h0, hlc0, hcm0⟩ := rd_of_row w0
  clear w0
  generalize z0.take len0 = l0 at h0
  by_cases hn0 : len0 ≤ 1048576
  rotate_left
  · go_enter Try.func3, Try.ntmps3
    go_wp2_with fail
    go_ret
    exact ⟨rfl, Below.refl _ _⟩
  have hS := fun (A0 : Option Addr) (n0 c0 : Nat) (H : Nat) (W : World) (hR0 : Rd W H A0 n0 l0) (hH : H ≤ W.heap.size) (hn0 : n0 ≤ 1048576) => Lib.hid (ofS_any A0 n0 c0 H l0 W hR0 hH hn0)
  have hI := fun (A0 : Option Addr) (n0 c0 : Nat) (H : Nat) (W : World) (hR0 : Rd W H A0 n0 l0) (hH : H ≤ W.heap.size) (hn0 : n0 ≤ 1048576) (hnc0 : n0 ≤ c0) (hcm0 : c0 ≤ 9223372036854775807) => Lib.hid (ofI_any A0 n0 c0 H l0 W hR0 hH hn0 hnc0 hcm0)
  generalize ofR l0 = r0 at hS hI
  generalize ringB l0 = r1 at hS hI
  have HS := Lib.hid hS
  have HI := Lib.hid hI
  have HL0 := Lib.hid h0.len
  clear hS hI
  go_enter Try.func3, Try.ntmps3
  have HR0_0 := Lib.hid h0
  clear h0
  have HB_0 := Lib.hid (Below.refl w.heap.size w)
  go_wp2_with fail
  refine (toIntS_any a0 len0 cap0 l0 w (HR0_0.out.more (by omega)) hn0).mono ?_
  rintro e W1 ⟨rfl, ho, hb⟩
  have s1 := hb.size
  have HR0_1 := Lib.hid (HR0_0.out.below (hb.mono (by omega)))
  have HB_1 := Lib.hid (HB_0.out.trans (hb.mono (by omega)))
  have HT0_1 := Lib.hid ho.two
  clear ho hb HR0_0 HB_0
  go_wp2_with fail
  refine ((HS.out _ len0 len0 W1.heap.size W1 (HT0_1.out.rd.more (by omega)) (Nat.le_refl _) hn0).out).mono ?_
  rintro e W2 ⟨rfl, hb⟩
  have s2 := hb.size
  have HR0_2 := Lib.hid (HR0_1.out.below (hb.mono (by omega)))
  have HB_2 := Lib.hid (HB_1.out.trans (hb.mono (by omega)))
  have HT0_2 := Lib.hid (HT0_1.out.below hb (by omega))
  clear hb  HR0_1 HB_1 HT0_1
  clear HT0_2
  go_wp2_with fail
  refine (toIntS_any a0 len0 cap0 l0 W2 (HR0_2.out.more (by omega)) hn0).mono ?_
  rintro e W3 ⟨rfl, ho, hb⟩
  have s3 := hb.size
  have HR0_3 := Lib.hid (HR0_2.out.below (hb.mono (by omega)))
  have HB_3 := Lib.hid (HB_2.out.trans (hb.mono (by omega)))
  have HX0_3 := Lib.hid ho.two
  clear ho hb HR0_2 HB_2
  go_wp2_with fail
  refine ((HI.out _ len0 len0 W3.heap.size W3 (HX0_3.out.rd.more (by omega)) (Nat.le_refl _) hn0 (Nat.le_refl _) (by omega)).out).mono ?_
  rintro e W4 ⟨rfl, hb⟩
  have s4 := hb.size
  have HR0_4 := Lib.hid (HR0_3.out.below (hb.mono (by omega)))
  have HB_4 := Lib.hid (HB_3.out.trans (hb.mono (by omega)))
  have HX0_4 := Lib.hid (HX0_3.out.below hb (by omega))
  clear hb  HR0_3 HB_3 HX0_3
  go_wp2_with fail
  refine (toIntS_any a0 len0 cap0 l0 W4 (HR0_4.out.more (by omega)) hn0).mono ?_
  rintro e W5 ⟨rfl, ho, hb⟩
  have s5 := hb.size
  have HR0_5 := Lib.hid (HR0_4.out.below (hb.mono (by omega)))
  have HB_5 := Lib.hid (HB_4.out.trans (hb.mono (by omega)))
  have HX0_5 := Lib.hid (HX0_4.out.below hb (by omega))
  have HY0_5 := Lib.hid ho.two
  clear ho hb HR0_4 HB_4 HX0_4
  go_wp2_with fail
  refine (eq_own _ _ _ _ _ _ _ _ _ _ l0 W5 HX0_5.out HY0_5.out (by rw [HL0.out]; exact hn0)).mono ?_
  rintro e W6 ⟨rfl, hb⟩
  have s6 := hb.size
  have HR0_6 := Lib.hid (HR0_5.out.below (hb.mono (by omega)))
  have HB_6 := Lib.hid (HB_5.out.trans (hb.mono (by omega)))
  have HX0_6 := Lib.hid (HX0_5.out.below hb (by omega))
  have HY0_6 := Lib.hid (HY0_5.out.below hb (by omega))
  clear hb HR0_5 HB_5 HX0_5 HY0_5
  clear HY0_6
  go_wp2_with fail
  go_ret
  exact ⟨rfl, HB_6.out⟩
end Go.Proofs.Ytdmlhkmahmgdlab
