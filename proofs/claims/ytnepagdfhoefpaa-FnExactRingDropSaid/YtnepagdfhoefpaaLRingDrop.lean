/- The law on RingDrop: the model and the program hand back the same list and the same verdict, the argument stays as it is, and the answer owns its memory. -/
import Derived.Test.YtnepagdfhoefpaaDropT
namespace Go.Proofs.Ytnepagdfhoefpaa
open Go.ChangeShapes Go.WideShapes Go.ChangeAt Go.RowKit

set_option maxHeartbeats 2000000 in
theorem law_RingDrop (a0 : Option Addr) (len0 cap0 : Nat) (z0 : List Int) (w : World) (w0 : IsRow .i64 w a0 len0 cap0 z0) :
    Calls Try.prog 14 #[.slice a0 len0 cap0] w fun e w' => e = .returned (.bool true) ∧ Below w.heap.size w w' := by
  obtain ⟨h, hlc, hcm⟩ := rd_of_row w0
  clear w0
  generalize z0.take len0 = l at h
  by_cases hn : len0 ≤ 1048576
  · have hS := fun (A : Option Addr) (n c H : Nat) (W : World) (hR : Rd W H A n l) (hH : H ≤ W.heap.size) (hn : n ≤ 1048576) => Lib.hid (drS_any A n c H l  W hR hH hn)
    have hI := fun (A : Option Addr) (n c H : Nat) (W : World) (hR : Rd W H A n l) (hH : H ≤ W.heap.size) (hn : n ≤ 1048576) (hnc : n ≤ c) (hcm : c ≤ 9223372036854775807) => Lib.hid (drI_any A n c H l  W hR hH hn hnc hcm)
    have hrl : (dropR l).length ≤ 7 := dropR_length l
    generalize dropR l = r at hS hI hrl
    generalize dropB l = b at hS hI
    have HS := Lib.hid hS
    have HI := Lib.hid hI
    have HL := Lib.hid h.len
    clear hS hI
    go_enter Try.func14, Try.ntmps14
    go_wp2_with fail
    refine (toIntS_any a0 len0 cap0 l w h hn).mono ?_
    rintro e W1 ⟨rfl, ho1, hb1⟩
    have s1 := hb1.size
    have HB1 := Lib.hid hb1
    have HR1 := Lib.hid (h.below hb1)
    have HO1 := Lib.hid ho1.rd.2
    clear ho1 hb1 h
    go_wp2_with fail
    refine ((HS.out _ len0 len0 _ W1 HO1.out (Nat.le_refl _) hn).out).mono ?_
    rintro e W2 ⟨v0, rfl, ho2, hb2⟩
    obtain ⟨A2, c2, rfl⟩ := ho2.slice
    have s2 := hb2.size
    have HB2 := Lib.hid (HB1.out.trans (hb2.mono s1))
    have HR2 := Lib.hid (HR1.out.below (hb2.mono s1))
    have HV2 := Lib.hid ho2.two
    clear ho2 hb2 HO1 HB1 HR1
    go_wp2_with fail
    refine (toIntS_any a0 len0 cap0 l W2 (HR2.out.more (by omega)) hn).mono ?_
    rintro e W3 ⟨rfl, ho3, hb3⟩
    have s3 := hb3.size
    have s23 := (ho3.lt _ rfl).2
    have HB3 := Lib.hid (HB2.out.trans (hb3.mono (by omega)))
    have HR3 := Lib.hid (HR2.out.below (hb3.mono (by omega)))
    have HV3 := Lib.hid (HV2.out.below hb3 (Nat.le_refl _))
    have HX3 := Lib.hid ho3.two
    clear ho3 hb3 HB2 HR2 HV2
    go_wp2_with fail
    refine ((HI.out _ len0 len0 _ W3 HX3.out.rd (Nat.le_refl _) hn (Nat.le_refl _) (by omega)).out).mono ?_
    rintro e W4 ⟨v1, rfl, ho4, hb4⟩
    obtain ⟨A4, c4, rfl⟩ := ho4.slice
    have s4 := hb4.size
    have HB4 := Lib.hid (HB3.out.trans (hb4.mono (by omega)))
    have HR4 := Lib.hid (HR3.out.below (hb4.mono (by omega)))
    have HV4 := Lib.hid (HV3.out.below hb4 (by omega))
    have HX4 := Lib.hid (HX3.out.below hb4 (Nat.le_refl _))
    have HG4 := Lib.hid ho4.two
    clear ho4 hb4 HB3 HR3 HV3 HX3
    go_wp2_with fail
    refine (eq_own _ _ _ _ _ _ _ _ _ _ r W4 HG4.out HV4.out (by omega)).mono ?_
    rintro e W5 ⟨rfl, hb5⟩
    have s5 := hb5.size
    have HB5 := Lib.hid (HB4.out.trans (hb5.mono (by omega)))
    have HR5 := Lib.hid (HR4.out.below (hb5.mono (by omega)))
    have HV5 := Lib.hid (HV4.out.below hb5 (by omega))
    have HX5 := Lib.hid (HX4.out.below hb5 (by omega))
    have HG5 := Lib.hid (HG4.out.below hb5 (Nat.le_refl _))
    clear hb5 HB4 HR4 HV4 HX4 HG4
    go_wp2_with fail
    refine (toIntS_any a0 len0 cap0 l W5 (HR5.out.more (by omega)) hn).mono ?_
    rintro e W6 ⟨rfl, ho6, hb6⟩
    have s6 := hb6.size
    have HB6 := Lib.hid (HB5.out.trans (hb6.mono (by omega)))
    have HR6 := Lib.hid (HR5.out.below (hb6.mono (by omega)))
    have HV6 := Lib.hid (HV5.out.below hb6 (by omega))
    have HX6 := Lib.hid (HX5.out.below hb6 (by omega))
    have HG6 := Lib.hid (HG5.out.below hb6 (by omega))
    have HY6 := Lib.hid ho6.two
    clear ho6 hb6 HB5 HR5 HV5 HX5 HG5
    go_wp2_with fail
    refine (eq_own _ _ _ _ _ _ _ _ _ _ l W6 HX6.out HY6.out (by rw [HL.out]; exact hn)).mono ?_
    rintro e W7 ⟨rfl, hb7⟩
    have s7 := hb7.size
    have HB7 := Lib.hid (HB6.out.trans (hb7.mono (by omega)))
    have HR7 := Lib.hid (HR6.out.below (hb7.mono (by omega)))
    have HV7 := Lib.hid (HV6.out.below hb7 (by omega))
    have HX7 := Lib.hid (HX6.out.below hb7 (by omega))
    have HG7 := Lib.hid (HG6.out.below hb7 (by omega))
    clear hb7 HB6 HR6 HV6 HX6 HG6 HY6
    go_wp2_with fail
    refine (mark_own _ _ _ l 1 W7 HX7.out (by rw [HL.out]; exact hn) (by omega) (by omega)).mono ?_
    rintro e W8 ⟨rfl, _, hg8⟩
    have s8 := hg8.size
    have HB8 := Lib.hid (HB7.out.grown hg8 (by omega) (by intro q hq; simp [Value.ownBlock] at hq; omega))
    have HR8 := Lib.hid (HR7.out.grown hg8 (by omega) (by intro q hq; simp [Value.ownBlock] at hq; omega))
    have HV8 := Lib.hid (HV7.out.grown hg8 (by intro q hq; simp [Value.ownBlock] at hq; omega))
    have HG8 := Lib.hid (HG7.out.grown hg8 (by intro q hq; simp [Value.ownBlock] at hq; omega))
    clear hg8 HB7 HR7 HV7 HX7 HG7
    go_wp2_with fail
    refine (eq_own _ _ _ _ _ _ _ _ _ _ r W8 HG8.out HV8.out (by omega)).mono ?_
    rintro e W9 ⟨rfl, hb9⟩
    have s9 := hb9.size
    have HB9 := Lib.hid (HB8.out.trans (hb9.mono (by omega)))
    have HR9 := Lib.hid (HR8.out.below (hb9.mono (by omega)))
    have HV9 := Lib.hid (HV8.out.below hb9 (by omega))
    have HG9 := Lib.hid (HG8.out.below hb9 (by omega))
    clear hb9 HB8 HR8 HV8 HG8
    go_wp2_with fail
    refine (mark_own _ _ _ r 1 W9 HG9.out (by omega) (by omega) (by omega)).mono ?_
    rintro e W10 ⟨rfl, hg, hg10⟩
    have s10 := hg10.size
    have hrow := fun k hk => (HG9.out.1.lt k hk).1
    have HB10 := Lib.hid (HB9.out.grown hg10 (by omega) (by intro q hq; have := hrow q hq; omega))
    have HR10 := Lib.hid (HR9.out.grown hg10 (by omega) (by intro q hq; have := hrow q hq; omega))
    have HV10 := Lib.hid (HV9.out.grown hg10 (by intro q hq; have := hrow q hq; omega))
    have HG10 := Lib.hid hg
    clear hg hg10 hrow HB9 HR9 HV9 HG9
    go_wp2_with fail
    refine (held_own _ _ _ _ _ 1 r.length W10 HG10.out (by omega) (by omega) (by omega)).mono ?_
    rintro e w' ⟨rfl, rfl⟩
    go_wp2_with fail
    refine (toIntS_any a0 len0 cap0 l W10 (HR10.out.more (by omega)) hn).mono ?_
    rintro e W11 ⟨rfl, ho11, hb11⟩
    have s11 := hb11.size
    have HB11 := Lib.hid (HB10.out.trans (hb11.mono (by omega)))
    have HV11 := Lib.hid (HV10.out.below hb11 (by omega))
    have HG11 := Lib.hid (HG10.out.below hb11 (by omega))
    have HO11 := Lib.hid ho11.rd.2
    clear ho11 hb11 HB10 HR10 HV10 HG10
    go_wp2_with fail
    refine ((HI.out _ len0 len0 _ W11 HO11.out (Nat.le_refl _) hn (Nat.le_refl _) (by omega)).out).mono ?_
    rintro e W12 ⟨v2, rfl, ho12, hb12⟩
    obtain ⟨A12, c12, rfl⟩ := ho12.slice
    have s12 := hb12.size
    have HB12 := Lib.hid (HB11.out.trans (hb12.mono (by omega)))
    have HV12 := Lib.hid (HV11.out.below hb12 (by omega))
    have HG12 := Lib.hid (HG11.out.below hb12 (by omega))
    have HH12 := Lib.hid ho12.two
    clear ho12 hb12 HB11 HV11 HG11 HO11
    go_wp2_with fail
    refine (eq_own _ _ _ _ _ _ _ _ _ _ r W12 HH12.out HV12.out (by omega)).mono ?_
    rintro e W13 ⟨rfl, hb13⟩
    have HB13 := Lib.hid (HB12.out.trans (hb13.mono (by omega)))
    have HG13 := Lib.hid (HG12.out.below hb13 (by omega))
    clear hb13 HB12 HV12 HG12 HH12
    go_wp2_with fail
    refine (held_own _ _ _ _ _ 1 r.length W13 HG13.out (by omega) (by omega) (by omega)).mono ?_
    rintro e w' ⟨rfl, rfl⟩
    go_wp2_with fail
    go_ret
    exact ⟨rfl, HB13.out⟩
  · go_enter Try.func14, Try.ntmps14
    go_wp2_with fail
    go_ret
    exact ⟨rfl, Below.refl _ _⟩
end Go.Proofs.Ytnepagdfhoefpaa
