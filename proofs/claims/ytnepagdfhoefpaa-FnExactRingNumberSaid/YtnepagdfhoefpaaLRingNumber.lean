/- The law on RingNumber: the model and the program hand back the same number and the same verdict, and the argument stays as it is. -/
import Derived.Test.YtnepagdfhoefpaaNumT
import Derived.Test.YtnepagdfhoefpaaOwn
namespace Go.Proofs.Ytnepagdfhoefpaa
open Go.ChangeShapes Go.WideShapes Go.ChangeAt Go.RowKit

set_option maxHeartbeats 2000000 in
theorem law_RingNumber (a0 : Option Addr) (len0 cap0 : Nat) (z0 : List Int) (w : World) (w0 : IsRow .i64 w a0 len0 cap0 z0) :
    Calls Try.prog 11 #[.slice a0 len0 cap0] w fun e w' => e = .returned (.bool true) ∧ Below w.heap.size w w' := by
  obtain ⟨h, hlc, hcm⟩ := rd_of_row w0
  clear w0
  generalize z0.take len0 = l at h
  by_cases hn : len0 ≤ 1048576
  · have hS := fun (A : Option Addr) (n c H : Nat) (W : World) (hR : Rd W H A n l) (hH : H ≤ W.heap.size) (hn : n ≤ 1048576) => Lib.hid (nuS_any A n c H l  W hR hH hn)
    have hI := fun (A : Option Addr) (n c H : Nat) (W : World) (hR : Rd W H A n l) (hH : H ≤ W.heap.size) (hn : n ≤ 1048576) (hnc : n ≤ c) (hcm : c ≤ 9223372036854775807) => Lib.hid (nuI_any A n c H l  W hR hH hn hnc hcm)
    generalize numR l = r at hS hI
    generalize ringB l = b at hS hI
    have HS := Lib.hid hS
    have HI := Lib.hid hI
    have HL := Lib.hid h.len
    clear hS hI
    go_enter Try.func11, Try.ntmps11
    go_wp2_with fail
    refine (toIntS_any a0 len0 cap0 l w h hn).mono ?_
    rintro e W1 ⟨rfl, ho1, hb1⟩
    have s1 := hb1.size
    have HB1 := Lib.hid hb1
    have HR1 := Lib.hid (h.below hb1)
    have HO1 := Lib.hid ho1.rd.2
    clear ho1 hb1 h
    go_wp2_with fail
    refine ((HS.out _ len0 len0 _ W1 HO1.out (Nat.le_refl _) hn).out).mono ?_
    rintro e W2 ⟨rfl, hb2⟩
    have s2 := hb2.size
    have HB2 := Lib.hid (HB1.out.trans (hb2.mono s1))
    have HR2 := Lib.hid (HR1.out.below (hb2.mono s1))
    clear hb2 HO1 HB1 HR1
    go_wp2_with fail
    refine (toIntS_any a0 len0 cap0 l W2 (HR2.out.more (by omega)) hn).mono ?_
    rintro e W3 ⟨rfl, ho3, hb3⟩
    have s3 := hb3.size
    have HB3 := Lib.hid (HB2.out.trans (hb3.mono (by omega)))
    have HR3 := Lib.hid (HR2.out.below (hb3.mono (by omega)))
    have HX3 := Lib.hid ho3.two
    clear ho3 hb3 HB2 HR2
    go_wp2_with fail
    refine ((HI.out _ len0 len0 _ W3 HX3.out.rd (Nat.le_refl _) hn (Nat.le_refl _) (by omega)).out).mono ?_
    rintro e W4 ⟨rfl, hb4⟩
    have s4 := hb4.size
    have HB4 := Lib.hid (HB3.out.trans (hb4.mono (by omega)))
    have HR4 := Lib.hid (HR3.out.below (hb4.mono (by omega)))
    have HX4 := Lib.hid (HX3.out.below hb4 (Nat.le_refl _))
    clear hb4 HB3 HR3 HX3
    go_wp2_with fail
    refine (toIntS_any a0 len0 cap0 l W4 (HR4.out.more (by omega)) hn).mono ?_
    rintro e W6 ⟨rfl, ho6, hb6⟩
    have s6 := hb6.size
    have HB6 := Lib.hid (HB4.out.trans (hb6.mono (by omega)))
    have HX6 := Lib.hid (HX4.out.below hb6 (by omega))
    have HY6 := Lib.hid ho6.two
    clear ho6 hb6 HB4 HR4 HX4
    go_wp2_with fail
    refine (eq_own _ _ _ _ _ _ _ _ _ _ l W6 HX6.out HY6.out (by rw [HL.out]; exact hn)).mono ?_
    rintro e W7 ⟨rfl, hb7⟩
    have HB7 := Lib.hid (HB6.out.trans (hb7.mono (by omega)))
    clear hb7 HB6 HX6 HY6
    go_wp2_with fail
    go_ret
    exact ⟨rfl, HB7.out⟩
  · go_enter Try.func11, Try.ntmps11
    go_wp2_with fail
    go_ret
    exact ⟨rfl, Below.refl _ _⟩
end Go.Proofs.Ytnepagdfhoefpaa
