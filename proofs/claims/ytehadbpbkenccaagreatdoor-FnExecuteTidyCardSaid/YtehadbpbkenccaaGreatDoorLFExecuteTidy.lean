/- P109 as the row's walk asks. -/
import Derived.Test.YtehadbpbkenccaaGreatDoorDR
import Derived.Test.YtehadbpbkenccaaGreatDoorExX
import Derived.Test.YtehadbpbkenccaaGreatDoorExN
namespace Go.Proofs.YtehadbpbkenccaaGreatDoor
open Go.ChangeShapes Go.WideShapes Go.ChangeAt Go.RowKit

set_option maxRecDepth 10000 in
set_option maxHeartbeats 4000000 in
theorem law_ExecuteTidy (a0 : Option Addr) (len0 cap0 : Nat) (z0 : List Int) (w : World) (w0 : IsRow .u8 w a0 len0 cap0 z0) (hand : Hand w) (hM : Mxl w) :
    Calls Tryz.prog 3 #[.slice a0 len0 cap0] w fun e w' => e = .returned (.bool true) ∧ Below w.heap.size w w' := by
  obtain ⟨h, hlc, hcm⟩ := byt_of_row w0
  have HD := Lib.hid (drawTermTidy_any len0 cap0 w.heap.size a0 w h (Nat.le_refl _) hlc hcm)
  have HH := Lib.hid hand
  have HM := Lib.hid hM
  clear w0 h hand hM
  by_cases hn : len0 ≤ 1048576
  rotate_left
  · go_enter Tryz.func3, Tryz.ntmps3
    go_wp2
    go_ret
    exact ⟨rfl, Below.refl _ _⟩
  go_enter Tryz.func3, Tryz.ntmps3
  go_wp2_with fail
  refine HD.out.mono ?_
  rintro e w1 ⟨s, rfl, hs, hb1⟩
  have HB1 := Lib.hid hb1
  clear hb1 HD
  rcases hr : ringT s.data.toList with _ | t
  · have H1 := Lib.hid (tidyI_no s w1 (HH.out.on HB1.out) (by omega) hr)
    have HN := Lib.hid hr
    clear hr
    obtain ⟨o, ho⟩ : ∃ o, o = bs [] := ⟨_, rfl⟩
    have HOE := Lib.hid ho
    clear ho
    go_wp2_with fail
    refine H1.out.mono ?_
    rintro e w2 ⟨rfl, hb2⟩
    rw [← HOE.out]
    have HB2 := Lib.hid (HB1.out.trans (hb2.mono HB1.out.size))
    have H2 := Lib.hid (tidyS_no s w2 HN.out)
    clear hb2 H1
    go_wp2_with fail
    refine H2.out.mono ?_
    rintro e w3 ⟨rfl, hb3⟩
    rw [← HOE.out]
    have HB3 := Lib.hid (HB2.out.trans (hb3.mono HB2.out.size))
    clear hb3 H2
    go_wp2_with fail
    go_ret
    exact ⟨rfl, HB3.out⟩
  · obtain ⟨hok, hlen, h60⟩ := rdT_ok (ringT_ok hr).1
    have hle := tidy_le t false
    have hsl : s.data.toList.length = s.size := by rw [Array.length_toList]; rfl
    have h10 := ring_ten hr
    obtain ⟨o, ho⟩ : ∃ o, o = bs (t.tidy false) := ⟨_, rfl⟩
    have hosz : o.size ≤ 100 := by rw [ho, bs_size]; omega
    have hssz : s.size ≤ 100 := by omega
    have H1 := Lib.hid (tidyI_yes s w1 (HH.out.on HB1.out) (by omega) t hr)
    have HS := Lib.hid (fun W => tidyS_yes s W t hr)
    have HX : Hid (∀ W, Below w.heap.size w W → Calls Tryz.prog 7 #[.string (⟨#[116, 105, 100, 121, 32]⟩ ++ s ++ ⟨#[10]⟩)] W fun e w' => e = .returned (.string (o ++ ⟨#[10, 112, 111, 105, 110, 116, 115, 32, 53, 10]⟩)) ∧ Below W.heap.size W w') := by
      intro W hW
      have e1 : (⟨#[116, 105, 100, 121, 32]⟩ ++ s ++ ⟨#[10]⟩ : ByteArray) = ⟨([116, 105, 100, 121] ++ 32 :: s.data.toList ++ [10]).toArray⟩ := by
        apply ByteArray.ext
        apply Array.toList_inj.1
        simp
      have e2 : (o ++ ⟨#[10, 112, 111, 105, 110, 116, 115, 32, 53, 10]⟩ : ByteArray) = ⟨(o.data.toList ++ [10, 112, 111, 105, 110, 116, 115, 32, 53, 10]).toArray⟩ := by
        apply ByteArray.ext
        apply Array.toList_inj.1
        simp
      rw [e1, e2]
      refine exec_tidy s o W (HM.out.on hW) h10 (by omega) (by omega) ?_
      intro p W' hW'
      rw [ho]
      exact line_tidy (.pointer (some p)) s W' (HH.out.on (hW.trans (hW'.mono hW.size))) (by omega) t hr
    clear hok hlen h60 hle hsl h10 hr
    unfold StrQ at H1 HS
    rw [← ho] at H1 HS
    clear ho
    go_wp2_with fail
    refine H1.out.mono ?_
    rintro e w2 ⟨rfl, hb2⟩
    have HB2 := Lib.hid (HB1.out.trans (hb2.mono HB1.out.size))
    clear hb2 H1
    go_wp2_with fail
    refine (HS.out _).mono ?_
    rintro e w3 ⟨rfl, hb3⟩
    have HB3 := Lib.hid (HB2.out.trans (hb3.mono HB2.out.size))
    clear hb3 HS
    go_wp2_with fail
    refine (HX.out _ HB3.out).mono ?_
    rintro e w4 ⟨rfl, hb4⟩
    have HB4 := Lib.hid (HB3.out.trans (hb4.mono HB3.out.size))
    clear hb4 HX
    go_wp2_with fail
    go_ret
    exact ⟨rfl, HB4.out⟩
end Go.Proofs.YtehadbpbkenccaaGreatDoor
