/- P88 as the row's walk asks. -/
import Derived.Test.YtoifdfbhhdedbaaDoorDraw24
import Derived.Test.YtoifdfbhhdedbaaDoorTmZ
import Derived.Test.YtoifdfbhhdedbaaDoorTp1
namespace Go.Proofs.YtoifdfbhhdedbaaDoor
open Go.ChangeShapes Go.WideShapes Go.ChangeAt Go.RowKit

theorem inI_any (u : ByteArray) (V : World) (hand : Hand V) (hs : u.size ≤ 1048576) : Calls Tryd.prog 8 #[.string u] V fun e w' => e = .returned (.bool (ringT u.data.toList).isSome) ∧ Below V.heap.size V w' := by
  rcases h : ringT u.data.toList with _ | t
  · exact inI_no u V hand hs h
  · exact inI_yes u V hand hs t h
theorem inS_any (u : ByteArray) (V : World) : Calls Tryd.prog 9 #[.string u] V fun e w' => e = .returned (.bool (ringT u.data.toList).isSome) ∧ Below V.heap.size V w' := by
  rcases h : ringT u.data.toList with _ | t
  · exact inS_no u V h
  · exact inS_yes u V t h

set_option maxRecDepth 10000 in
set_option maxHeartbeats 2000000 in
theorem law_Term (a0 : Option Addr) (len0 cap0 : Nat) (z0 : List Int) (w : World) (w0 : IsRow .u8 w a0 len0 cap0 z0) (hand : Hand w) :
    Calls Tryd.prog 3 #[.slice a0 len0 cap0] w fun e w' => e = .returned (.bool true) ∧ Below w.heap.size w w' := by
  obtain ⟨h, hlc, hcm⟩ := byt_of_row w0
  have HD := Lib.hid (drawTermIn_any len0 cap0 w.heap.size a0 w h (Nat.le_refl _) hlc hcm)
  have HI := Lib.hid (fun (u : ByteArray) (V : World) (h1 : Below w.heap.size w V) (h2 : u.size ≤ 1048576) => inI_any u V (hand.on h1) h2)
  clear w0 h hand
  by_cases hn : len0 ≤ 1048576
  rotate_left
  · go_enter Tryd.func3, Tryd.ntmps3
    go_wp2
    go_ret
    exact ⟨rfl, Below.refl _ _⟩
  go_enter Tryd.func3, Tryd.ntmps3
  go_wp2_with fail
  refine HD.out.mono ?_
  rintro e w1 ⟨s, rfl, hs, hb1⟩
  have H1 := Lib.hid (HI.out s w1 hb1 (by omega))
  have HB1 := Lib.hid hb1
  clear hb1 HD
  go_wp2_with fail
  refine H1.out.mono ?_
  rintro e w2 ⟨rfl, hb2⟩
  have H2 := Lib.hid (inS_any s w2)
  have HB2 := Lib.hid (HB1.out.trans (hb2.mono HB1.out.size))
  clear hb2 H1
  go_wp2_with fail
  refine H2.out.mono ?_
  rintro e w3 ⟨rfl, hb3⟩
  have HB3 := Lib.hid (HB2.out.trans (hb3.mono HB2.out.size))
  clear hb3 H2
  rcases hr : ringT s.data.toList with _ | t
  · clear hr
    simp only [Option.isSome_none]
    go_wp2_with fail
    go_ret
    exact ⟨rfl, HB3.out⟩
  · simp only [Option.isSome_some]
    have HM1 : Hid ((ringT (s ++ ⟨#[41]⟩).data.toList).isSome = false) := by
      rw [Hid, show (s ++ ⟨#[41]⟩ : ByteArray).data.toList = s.data.toList ++ [41] by simp, ring_more hr (by simp)]; rfl
    have HM2 : Hid ((ringT (s ++ ⟨#[97]⟩).data.toList).isSome = false) := by
      rw [Hid, show (s ++ ⟨#[97]⟩ : ByteArray).data.toList = s.data.toList ++ [97] by simp, ring_more hr (by simp)]; rfl
    have e1 : (s ++ ⟨#[41]⟩ : ByteArray).size = s.size + 1 := by rw [ByteArray.size_append]; rfl
    have e2 : (s ++ ⟨#[97]⟩ : ByteArray).size = s.size + 1 := by rw [ByteArray.size_append]; rfl
    have e3 : (⟨#[45]⟩ ++ s : ByteArray).size = 1 + s.size := by rw [ByteArray.size_append]; rfl
    by_cases h59 : 59 < s.size
    · clear hr e3
      have H4 := Lib.hid (HI.out (s ++ ⟨#[41]⟩) w3 HB3.out (by omega))
      have HS2 : (s ++ ⟨#[97]⟩ : ByteArray).size ≤ 1048576 := by omega
      clear e1 e2
      go_wp2_with fail
      refine H4.out.mono ?_
      rintro e w5 ⟨rfl, hb5⟩
      have HB5 := Lib.hid (HB3.out.trans (hb5.mono HB3.out.size))
      have H5 := Lib.hid (HI.out (s ++ ⟨#[97]⟩) w5 HB5.out HS2)
      rw [HM1.out]
      clear hb5 H4
      go_wp2_with fail
      refine H5.out.mono ?_
      rintro e w6 ⟨rfl, hb6⟩
      have HB6 := Lib.hid (HB5.out.trans (hb6.mono HB5.out.size))
      rw [HM2.out]
      clear hb6 H5
      go_wp2_with fail
      go_ret
      exact ⟨rfl, HB6.out⟩
    · have HM3 : Hid ((ringT (⟨#[45]⟩ ++ s).data.toList).isSome = true) := by
        rw [Hid, show (⟨#[45]⟩ ++ s : ByteArray).data.toList = 45 :: s.data.toList by simp, ring_sign hr (show s.size ≤ 59 by omega)]; rfl
      have H3 := Lib.hid (HI.out (⟨#[45]⟩ ++ s) w3 HB3.out (by omega))
      have HS1 : (s ++ ⟨#[41]⟩ : ByteArray).size ≤ 1048576 := by omega
      have HS2 : (s ++ ⟨#[97]⟩ : ByteArray).size ≤ 1048576 := by omega
      clear e1 e2 e3 hr
      go_wp2_with fail
      refine H3.out.mono ?_
      rintro e w4 ⟨rfl, hb4⟩
      have HB4 := Lib.hid (HB3.out.trans (hb4.mono HB3.out.size))
      have H4 := Lib.hid (HI.out (s ++ ⟨#[41]⟩) w4 HB4.out HS1)
      rw [HM3.out]
      clear hb4 H3
      go_wp2_with fail
      refine H4.out.mono ?_
      rintro e w5 ⟨rfl, hb5⟩
      have HB5 := Lib.hid (HB4.out.trans (hb5.mono HB4.out.size))
      have H5 := Lib.hid (HI.out (s ++ ⟨#[97]⟩) w5 HB5.out HS2)
      rw [HM1.out]
      clear hb5 H4
      go_wp2_with fail
      refine H5.out.mono ?_
      rintro e w6 ⟨rfl, hb6⟩
      have HB6 := Lib.hid (HB5.out.trans (hb6.mono HB5.out.size))
      rw [HM2.out]
      clear hb6 H5
      go_wp2_with fail
      go_ret
      exact ⟨rfl, HB6.out⟩
end Go.Proofs.YtoifdfbhhdedbaaDoor
