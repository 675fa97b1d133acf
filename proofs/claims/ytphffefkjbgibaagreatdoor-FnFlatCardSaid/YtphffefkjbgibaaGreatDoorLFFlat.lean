/- P92 as the row's walk asks. -/
import Derived.Test.YtphffefkjbgibaaGreatDoorDR
import Derived.Test.YtphffefkjbgibaaGreatDoorTn2
import Derived.Test.YtphffefkjbgibaaGreatDoorTn4
import Derived.Test.YtphffefkjbgibaaGreatDoorTa2
import Derived.Test.YtphffefkjbgibaaGreatDoorTn8
import Derived.Test.YtphffefkjbgibaaGreatDoorTp2
namespace Go.Proofs.YtphffefkjbgibaaGreatDoor
open Go.ChangeShapes Go.WideShapes Go.ChangeAt Go.RowKit

set_option maxRecDepth 10000 in
set_option maxHeartbeats 4000000 in
theorem law_Flat (a0 : Option Addr) (len0 cap0 : Nat) (z0 : List Int) (w : World) (w0 : IsRow .u8 w a0 len0 cap0 z0) (hand : Hand w) :
    Calls Tryz.prog 3 #[.slice a0 len0 cap0] w fun e w' => e = .returned (.bool true) ∧ Below w.heap.size w w' := by
  obtain ⟨h, hlc, hcm⟩ := byt_of_row w0
  have HD := Lib.hid (drawTermFlat_any len0 cap0 w.heap.size a0 w h (Nat.le_refl _) hlc hcm)
  have HH := Lib.hid hand
  clear w0 h hand
  by_cases hn : len0 ≤ 1048576
  rotate_left
  · go_enter Tryz.func3, Tryz.ntmps3
    go_wp2
    go_ret
    exact ⟨rfl, Below.refl _ _⟩
  go_enter Tryz.func3, Tryz.ntmps3
  go_wp2_with fail
  refine HD.out.mono ?_
  rintro e w1 ⟨s, rfl, hs, hb1⟩
  have HB1 := Lib.hid hb1
  clear hb1 HD
  rcases hr : ringT s.data.toList with _ | t
  · have H1 := Lib.hid (flatI_no s w1 (HH.out.on HB1.out) (by omega) hr)
    have HN := Lib.hid hr
    clear hr
    obtain ⟨o, ho⟩ : ∃ o, o = bs [] := ⟨_, rfl⟩
    have HOE := Lib.hid ho
    clear ho
    go_wp2_with fail
    refine H1.out.mono ?_
    rintro e w2 ⟨rfl, hb2⟩
    rw [← HOE.out]
    have HB2 := Lib.hid (HB1.out.trans (hb2.mono HB1.out.size))
    have H2 := Lib.hid (flatS_no s w2 HN.out)
    clear hb2 H1
    go_wp2_with fail
    refine H2.out.mono ?_
    rintro e w3 ⟨rfl, hb3⟩
    rw [← HOE.out]
    have HB3 := Lib.hid (HB2.out.trans (hb3.mono HB2.out.size))
    clear hb3 H2
    go_wp2_with fail
    go_ret
    exact ⟨rfl, HB3.out⟩
  · obtain ⟨h1, hT⟩ := ringT_ok hr
    obtain ⟨hok, hlen, h60⟩ := rdT_ok h1
    have hfl := ring_flt hr
    have h7 := hT.2.1
    rw [ptsU_len] at h7
    obtain ⟨o, ho⟩ : ∃ o, o = bs (40 :: (t.row ++ [41])) := ⟨_, rfl⟩
    have hol : o.data.toList = 40 :: (t.row ++ [41]) := by rw [ho, bs_list]
    have hosz : o.size = t.row.length + 2 := by rw [ho, bs_size]; simp
    rw [← hol] at hfl
    obtain ⟨b, hb⟩ : ∃ b, b = bs t.row := ⟨_, rfl⟩
    have hbs : b.size = t.row.length := by rw [hb, bs_size]
    have hob : o.size = b.size + 2 := by omega
    have HBE := Lib.hid hb
    have HOE := Lib.hid ho
    have HF := Lib.hid hfl
    have HR := Lib.hid hr
    have HAR := Lib.hid (flt_arcs hT)
    have HRW : Hid ((flt t.row).row = t.row) := Lib.hid (flt_row t.row)
    have ho9 : o.size ≤ 9 := by omega
    have H1 := Lib.hid (flatI_yes s w1 (HH.out.on HB1.out) (by omega) t hr)
    clear hr ho hb hbs hosz hol hfl h1 hT hok hlen h60 h7
    go_wp2_with fail
    refine H1.out.mono ?_
    rintro e w2 ⟨rfl, hb2⟩
    rw [← HOE.out]
    have HB2 := Lib.hid (HB1.out.trans (hb2.mono HB1.out.size))
    have H2 := Lib.hid (flatS_yes s w2 t HR.out)
    clear hb2 H1
    go_wp2_with fail
    refine H2.out.mono ?_
    rintro e w3 ⟨rfl, hb3⟩
    rw [← HOE.out]
    have HB3 := Lib.hid (HB2.out.trans (hb3.mono HB2.out.size))
    have H3 := Lib.hid (rowI_yes s w3 (HH.out.on HB3.out) (by omega) t HR.out)
    clear hb3 H2
    go_wp2_with fail
    refine H3.out.mono ?_
    rintro e w4 ⟨rfl, hb4⟩
    rw [← HBE.out]
    have HB4 := Lib.hid (HB3.out.trans (hb4.mono HB3.out.size))
    have H4 := Lib.hid (deepI_yes o w4 (HH.out.on HB4.out) (by omega) (flt t.row) HF.out)
    rw [flt_dep] at H4
    clear hb4 H3
    go_wp2_with fail
    refine H4.out.mono ?_
    rintro e w5 ⟨rfl, hb5⟩
    have HB5 := Lib.hid (HB4.out.trans (hb5.mono HB4.out.size))
    have H5 := Lib.hid (arcsI_yes o w5 (HH.out.on HB5.out) (by omega) (flt t.row) HF.out)
    rw [HAR.out] at H5
    clear hb5 H4
    go_wp2_with fail
    refine H5.out.mono ?_
    rintro e w6 ⟨v6, rfl, ho6, hb6⟩
    obtain ⟨A6, c6, rfl⟩ := ho6.slice
    have HB6 := Lib.hid (HB5.out.trans (hb6.mono HB5.out.size))
    have H6 := Lib.hid (sameI_yy s o w6 (HH.out.on HB6.out) (by omega) (by omega) t (flt t.row) HR.out HF.out)
    rw [HRW.out] at H6
    have hsm : same (cutL (ptsU t.row) 0) (cutL (ptsU t.row) 0) = true := by simp [same]
    rw [hsm] at H6
    have hoi : (o.size : Int) = (b.size : Int) + 2 := by omega
    have heq : ((o.size : Int) == (b.size : Int) + 2) = true := by simp; omega
    clear hb6 H5 hsm ho6
    go_wp2_with (go_at_call 10; refine H6.out.mono ?_; rintro e w7 ⟨rfl, hb7⟩; have HB7 := Lib.hid (HB6.out.trans (hb7.mono HB6.out.size)))
    go_ret
    exact ⟨rfl, HB7.out⟩
end Go.Proofs.YtphffefkjbgibaaGreatDoor
