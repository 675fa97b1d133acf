/- Rings with a point more have all their patterns: the law FnPatternPut. -/
import Derived.Test.YtmfilnpbkonfaaaDoorDraw19
import Derived.Test.YtmfilnpbkonfaaaDoorPnI
import Derived.Test.YtmfilnpbkonfaaaDoorLaw8M
import Derived.Test.YtmfilnpbkonfaaaDoorLaw8P
namespace Go.Proofs.YtmfilnpbkonfaaaDoor
open Go.ChangeShapes Go.WideShapes Go.ChangeAt Go.RowKit

set_option maxRecDepth 10000 in
set_option maxHeartbeats 4000000 in
theorem law_PatternPut (a0 : Option Addr) (len0 cap0 : Nat) (z0 : List Int) (w : World) (w0 : IsRow .u8 w a0 len0 cap0 z0) (hTAB : Tab w) :
    Calls Tryd.prog 6 #[.slice a0 len0 cap0] w fun e w' => e = .returned (.bool true) ∧ Below w.heap.size w w' := by
  obtain ⟨h, hlc, hcm⟩ := byt_of_row w0
  have HD := Lib.hid (drawPatternMany_any len0 cap0 w.heap.size a0 w h (Nat.le_refl _) hlc hcm)
  clear w0 h
  by_cases hn : len0 ≤ 1048576
  rotate_left
  · go_enter Tryd.func6, Tryd.ntmps6
    go_wp2_with fail
    go_ret
    exact ⟨rfl, Below.refl _ _⟩
  go_enter Tryd.func6, Tryd.ntmps6
  go_wp2_with fail
  refine HD.out.mono ?_
  rintro e w1 ⟨v, l, v', p, rfl, ⟨A1, n1, c1, rfl, hr1⟩, ⟨A2, n2, c2, rfl, hr2⟩, hb⟩
  have HB := Lib.hid hb
  have HR1 := Lib.hid hr1
  have HR2 := Lib.hid hr2
  have HRT := Lib.hid (hTAB.step hb)
  clear hTAB
  clear hb hr1 hr2 HD
  have HC := Lib.hid (cI_PatternMany HR1.out HR2.out HRT.out)
  go_wp2_with fail
  refine HC.out.mono ?_
  rintro e w2 ⟨rfl, hb⟩
  replace HB := Lib.hid (bl_step HB.out hb)
  replace HR1 := Lib.hid (HR1.out.step hb)
  replace HR2 := Lib.hid (HR2.out.step hb)
  replace HRT := Lib.hid (HRT.out.step hb)
  clear hb HC
  have HC := Lib.hid (cS_PatternMany HR1.out HR2.out)
  go_wp2_with fail
  refine HC.out.mono ?_
  rintro e w3 ⟨rfl, hb⟩
  replace HB := Lib.hid (bl_step HB.out hb)
  replace HR1 := Lib.hid (HR1.out.step hb)
  replace HR2 := Lib.hid (HR2.out.step hb)
  replace HRT := Lib.hid (HRT.out.step hb)
  clear hb HC
  by_cases hk : Two8 l p
  rotate_left
  · rw [pmR, if_neg hk, two8_no hk]
    clear hk
    go_wp2
    go_ret
    exact ⟨rfl, HB.out⟩
  have hp3 := hk.2.1.1.1
  have EO : pmR l p = (mnyN l p : Int) := by rw [pmR, if_pos hk]
  have m0 : (0 : Int) ∈ l := hk.1.1.zero
  rw [two8_yes hk, EO]
  by_cases h7 : putB l 0 = true
  rotate_left
  · have E1 := Lib.hid (putB_no h7)
    have E2 : Hid (∃ r, putR l 0 = r) := ⟨_, rfl⟩
    clear hk EO m0 h7 hp3
    have HC := Lib.hid (cI_RingPut HR1.out 0)
    rw [E1.out] at HC
    generalize mnyN l p = o at *
    go_wp2_with fail
    refine HC.out.mono ?_
    rintro e w9 ⟨v9, rfl, ⟨A9, n9, c9, rfl, hr9⟩, hb⟩
    replace HB := Lib.hid (bl_step HB.out hb)
    replace HR2 := Lib.hid (HR2.out.step hb)
    replace HRT := Lib.hid (HRT.out.step hb)
    have HR9 := Lib.hid hr9
    clear hb HC hr9
    have HC := Lib.hid (cI_PatternMany HR9.out HR2.out HRT.out)
    generalize pmR (putR l 0) p = o2 at *
    generalize two8 (putR l 0) p = o3 at *
    go_wp2_with fail
    refine HC.out.mono ?_
    rintro e w10 ⟨rfl, hb⟩
    replace HB := Lib.hid (bl_step HB.out hb)
    clear hb HC HR9 HR2 HR1 HRT
    go_wp2
    go_ret
    exact ⟨rfl, HB.out⟩
  obtain ⟨hr, _, h6, hr2, _⟩ := put_facts h7
  have hk2 : Two8 (putL l 0) p := ⟨hr2, hk.2.1, by rw [putL_length l 0 m0]; have := hk.2.2; omega⟩
  have E1 : Hid (putB l 0 = true ∧ putR l 0 = putL l 0) := ⟨h7, by rw [putR, if_pos h7]⟩
  have E2 : Hid (pmR (putL l 0) p = (mnyN (putL l 0) p : Int) ∧ two8 (putL l 0) p = true) := ⟨by rw [pmR, if_pos hk2], two8_yes hk2⟩
  have hle : (mnyN l p : Int) ≤ (mnyN (putL l 0) p : Int) := by have := mny_put (p := p) hr.1 m0 h6 (by omega); omega
  clear hk hk2 h7 hr h6 hr2 EO m0 hp3
  generalize mnyN l p = o at *
  generalize mnyN (putL l 0) p = o2 at *
  have HC := Lib.hid (cI_RingPut HR1.out 0)
  rw [E1.out.1, E1.out.2] at HC
  go_wp2_with fail
  refine HC.out.mono ?_
  rintro e w4 ⟨v, rfl, ⟨A4, n4, c4, rfl, hr⟩, hb⟩
  replace HB := Lib.hid (bl_step HB.out hb)
  replace HR1 := Lib.hid (HR1.out.step hb)
  replace HR2 := Lib.hid (HR2.out.step hb)
  replace HRT := Lib.hid (HRT.out.step hb)
  have HR4 := Lib.hid hr
  clear hr
  clear hb HC
  have HC := Lib.hid (cI_PatternMany HR4.out HR2.out HRT.out)
  rw [E2.out.1, E2.out.2] at HC
  go_wp2_with fail
  refine HC.out.mono ?_
  rintro e w5 ⟨rfl, hb⟩
  replace HB := Lib.hid (bl_step HB.out hb)
  clear HR1
  clear HR2
  clear HRT
  clear HR4
  clear hb HC
  clear E1 E2
  have hge : (o2 : Int) ≥ (o : Int) := hle
  go_wp2
  go_ret
  exact ⟨rfl, HB.out⟩
end Go.Proofs.YtmfilnpbkonfaaaDoor
