/- P91 as the row's walk asks. -/
import Derived.Test.YtoifdfbhhdedbaaDoorDraw24
import Derived.Test.YtoifdfbhhdedbaaDoorTnA
import Derived.Test.YtoifdfbhhdedbaaDoorTp1
namespace Go.Proofs.YtoifdfbhhdedbaaDoor
open Go.ChangeShapes Go.WideShapes Go.ChangeAt Go.RowKit

set_option maxRecDepth 10000 in
set_option maxHeartbeats 4000000 in
theorem law_Tidy (a0 : Option Addr) (len0 cap0 : Nat) (z0 : List Int) (w : World) (w0 : IsRow .u8 w a0 len0 cap0 z0) (hand : Hand w) :
    Calls Tryd.prog 6 #[.slice a0 len0 cap0] w fun e w' => e = .returned (.bool true) ∧ Below w.heap.size w w' := by
  obtain ⟨h, hlc, hcm⟩ := byt_of_row w0
  have HD := Lib.hid (drawTermTidy_any len0 cap0 w.heap.size a0 w h (Nat.le_refl _) hlc hcm)
  have HH := Lib.hid hand
  clear w0 h hand
  by_cases hn : len0 ≤ 1048576
  rotate_left
  · go_enter Tryd.func6, Tryd.ntmps6
    go_wp2
    go_ret
    exact ⟨rfl, Below.refl _ _⟩
  go_enter Tryd.func6, Tryd.ntmps6
  go_wp2_with fail
  refine HD.out.mono ?_
  rintro e w1 ⟨s, rfl, hs, hb1⟩
  have HB1 := Lib.hid hb1
  clear hb1 HD
  rcases hr : ringT s.data.toList with _ | t
  · have H1 := Lib.hid (tidyI_no s w1 (HH.out.on HB1.out) (by omega) hr)
    have HN := Lib.hid hr
    clear hr
    obtain ⟨o, ho⟩ : ∃ o, o = bs [] := ⟨_, rfl⟩
    have HOE := Lib.hid ho
    clear ho
    go_wp2_with fail
    refine H1.out.mono ?_
    rintro e w2 ⟨rfl, hb2⟩
    rw [← HOE.out]
    have HB2 := Lib.hid (HB1.out.trans (hb2.mono HB1.out.size))
    have H2 := Lib.hid (tidyS_no s w2 HN.out)
    clear hb2 H1
    go_wp2_with fail
    refine H2.out.mono ?_
    rintro e w3 ⟨rfl, hb3⟩
    rw [← HOE.out]
    have HB3 := Lib.hid (HB2.out.trans (hb3.mono HB2.out.size))
    clear hb3 H2
    go_wp2_with fail
    go_ret
    exact ⟨rfl, HB3.out⟩
  · obtain ⟨u, hu, hur, hud, hut⟩ := ring_tidy hr
    obtain ⟨hok, hlen, h60⟩ := rdT_ok (ringT_ok hr).1
    have hno := tidy_no t false hok
    have hle := tidy_le t false
    have hsl : s.data.toList.length = s.size := by rw [Array.length_toList]; rfl
    obtain ⟨o, ho⟩ : ∃ o, o = bs (t.tidy false) := ⟨_, rfl⟩
    have hol : o.data.toList = t.tidy false := by rw [ho, bs_list]
    have hosz : o.size ≤ s.size := by rw [ho, bs_size]; omega
    rw [← hol] at hu
    have hcs : Hid (∀ j (hj : j < o.size), (((o[j]'hj).toNat : Int) == 45) = false) := fun j hj => by
      have h1 : o[j]'hj ∈ t.tidy false := by rw [← hol]; exact Array.mem_toList_iff.2 (Array.getElem_mem (xs := o.data) hj)
      have h2 := hno _ h1
      simp
      intro e
      exact h2 (UInt8.toNat_inj.1 (by simp; omega))
    obtain ⟨b, hb⟩ : ∃ b, b = bs t.row := ⟨_, rfl⟩
    have HBE := Lib.hid hb
    have HOE := Lib.hid ho
    have HU := Lib.hid hu
    have HUR := Lib.hid hur
    have HUD := Lib.hid hud
    have HUT := Lib.hid hut
    have HR := Lib.hid hr
    have H1 := Lib.hid (tidyI_yes s w1 (HH.out.on HB1.out) (by omega) t hr)
    obtain ⟨dd, hdd⟩ : ∃ dd : Nat, dd = t.dep := ⟨_, rfl⟩
    have HDD := Lib.hid hdd
    clear hu hur hud hut hr ho hb hno hle hlen h60 hok hol hsl hdd
    go_wp2_with fail
    refine H1.out.mono ?_
    rintro e w2 ⟨rfl, hb2⟩
    rw [← HOE.out]
    have HB2 := Lib.hid (HB1.out.trans (hb2.mono HB1.out.size))
    have H2 := Lib.hid (tidyS_yes s w2 t HR.out)
    clear hb2 H1
    go_wp2_with fail
    refine H2.out.mono ?_
    rintro e w3 ⟨rfl, hb3⟩
    rw [← HOE.out]
    have HB3 := Lib.hid (HB2.out.trans (hb3.mono HB2.out.size))
    clear hb3 H2
    go_wp2_with fail
    go_loopw [8] (fun i wr => ∃ k : Nat, k ≤ o.size ∧ i = .int .i64 k ∧ Hid (wr = w3)) (fun i _ => o.size - (intOf i).toNat)
    case atStart => exact ⟨0, Nat.zero_le _, rfl, rfl⟩
    case round =>
      obtain ⟨k, hk, rfl, hwr⟩ := hrel
      by_cases hlt : k < o.size
      · have hc := hcs.out k hlt
        go_wp2_with fail
        go_roundw
        case rel => exact ⟨k + 1, by omega, by go_num, hwr⟩
        case measure => simp [intOf]; omega
      · have hw : wr = w3 := hwr
        subst hw
        obtain rfl : k = o.size := by omega
        have H4 := Lib.hid (tidyI_yes o wr (HH.out.on HB3.out) (by omega) u HU.out)
        go_wp2_with fail
        refine H4.out.mono ?_
        rintro e w4 ⟨rfl, hb4⟩
        rw [HUT.out, ← HOE.out]
        have HB4 := Lib.hid (HB3.out.trans (hb4.mono HB3.out.size))
        have H5 := Lib.hid (rowI_yes s w4 (HH.out.on HB4.out) (by omega) t HR.out)
        clear hb4 H4
        go_wp2_with fail
        refine H5.out.mono ?_
        rintro e w5 ⟨rfl, hb5⟩
        rw [← HBE.out]
        have HB5 := Lib.hid (HB4.out.trans (hb5.mono HB4.out.size))
        have H6 := Lib.hid (rowI_yes o w5 (HH.out.on HB5.out) (by omega) u HU.out)
        clear hb5 H5
        go_wp2_with fail
        refine H6.out.mono ?_
        rintro e w6 ⟨rfl, hb6⟩
        rw [HUR.out, ← HBE.out]
        have HB6 := Lib.hid (HB5.out.trans (hb6.mono HB5.out.size))
        have H7 := Lib.hid (deepI_yes s w6 (HH.out.on HB6.out) (by omega) t HR.out)
        clear hb6 H6
        go_wp2_with fail
        refine H7.out.mono ?_
        rintro e w7 ⟨rfl, hb7⟩
        rw [← HDD.out]
        have HB7 := Lib.hid (HB6.out.trans (hb7.mono HB6.out.size))
        have H8 := Lib.hid (deepI_yes o w7 (HH.out.on HB7.out) (by omega) u HU.out)
        clear hb7 H7
        go_wp2_with fail
        refine H8.out.mono ?_
        rintro e w8 ⟨rfl, hb8⟩
        rw [HUD.out, ← HDD.out]
        have HB8 := Lib.hid (HB7.out.trans (hb8.mono HB7.out.size))
        clear hb8 H8
        go_wp2_with fail
        go_ret
        exact ⟨rfl, HB8.out⟩
end Go.Proofs.YtoifdfbhhdedbaaDoor
