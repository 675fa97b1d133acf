/- Patterns go round with their rings: the law FnPatternBack. -/
import Derived.Test.YtmfilnpbkonfaaaDoorDraw19
import Derived.Test.YtmfilnpbkonfaaaDoorPnHb
import Derived.Test.YtmfilnpbkonfaaaDoorLaw8M
namespace Go.Proofs.YtmfilnpbkonfaaaDoor
open Go.ChangeShapes Go.WideShapes Go.ChangeAt Go.RowKit

set_option maxRecDepth 10000 in
set_option maxHeartbeats 4000000 in
theorem law_PatternBack (a0 : Option Addr) (len0 cap0 : Nat) (z0 : List Int) (w : World) (w0 : IsRow .u8 w a0 len0 cap0 z0) (hTAB : Tab w) :
    Calls Tryd.prog 4 #[.slice a0 len0 cap0] w fun e w' => e = .returned (.bool true) ∧ Below w.heap.size w w' := by
  obtain ⟨h, hlc, hcm⟩ := byt_of_row w0
  have HD := Lib.hid (drawPatternBack_any len0 cap0 w.heap.size a0 w h (Nat.le_refl _) hlc hcm)
  clear w0 h
  by_cases hn : len0 ≤ 1048576
  rotate_left
  · go_enter Tryd.func4, Tryd.ntmps4
    go_wp2_with fail
    go_ret
    exact ⟨rfl, Below.refl _ _⟩
  go_enter Tryd.func4, Tryd.ntmps4
  go_wp2_with fail
  refine HD.out.mono ?_
  rintro e w1 ⟨v, l, v', p, rfl, ⟨A1, n1, c1, rfl, hr1⟩, ⟨A2, n2, c2, rfl, hr2⟩, hb⟩
  have HB := Lib.hid hb
  have HR1 := Lib.hid hr1
  have HR2 := Lib.hid hr2
  have HRT := Lib.hid (hTAB.step hb)
  clear hTAB
  clear hb hr1 hr2 HD
  have HC := Lib.hid (cI_PatternBack HR1.out HR2.out HRT.out)
  go_wp2_with fail
  refine HC.out.mono ?_
  rintro e w2 ⟨rfl, hb⟩
  replace HB := Lib.hid (bl_step HB.out hb)
  replace HR1 := Lib.hid (HR1.out.step hb)
  replace HR2 := Lib.hid (HR2.out.step hb)
  replace HRT := Lib.hid (HRT.out.step hb)
  clear hb HC
  have HC := Lib.hid (cS_PatternBack HR1.out HR2.out)
  go_wp2_with fail
  refine HC.out.mono ?_
  rintro e w3 ⟨rfl, hb⟩
  replace HB := Lib.hid (bl_step HB.out hb)
  replace HR1 := Lib.hid (HR1.out.step hb)
  replace HR2 := Lib.hid (HR2.out.step hb)
  replace HRT := Lib.hid (HRT.out.step hb)
  clear hb HC
  by_cases hk : Two8 l p
  rotate_left
  · rw [pbR, if_neg hk, two8_no hk]
    clear hk
    go_wp2
    go_ret
    exact ⟨rfl, HB.out⟩
  have hk2 : Two8 (backL l) p := ⟨backL_ring' hk.1, hk.2.1, by rw [backL_length]; exact hk.2.2⟩
  have E1 : Hid (ringB l = true ∧ backR l = backL l) := ⟨ring_yes hk.1, by rw [backR, if_pos hk.1]⟩
  have E2 : Hid (pmR (backL l) p = pbR l p ∧ two8 (backL l) p = true) := ⟨by rw [pmR, if_pos hk2, pbR, if_pos hk, mny_back hk.1.1 (by have := hk.2.1.1.1; omega)], two8_yes hk2⟩
  rw [two8_yes hk]
  clear hk hk2
  generalize pbR l p = o at *
  have HC := Lib.hid (c8I_RingBack HR1.out)
  rw [E1.out.1, E1.out.2] at HC
  go_wp2_with fail
  refine HC.out.mono ?_
  rintro e w4 ⟨v, rfl, ⟨A4, n4, c4, rfl, hr⟩, hb⟩
  replace HB := Lib.hid (bl_step HB.out hb)
  replace HR1 := Lib.hid (HR1.out.step hb)
  replace HR2 := Lib.hid (HR2.out.step hb)
  replace HRT := Lib.hid (HRT.out.step hb)
  have HR4 := Lib.hid hr
  clear hr
  clear hb HC
  have HC := Lib.hid (cI_PatternMany HR4.out HR2.out HRT.out)
  rw [E2.out.1, E2.out.2] at HC
  go_wp2_with fail
  refine HC.out.mono ?_
  rintro e w5 ⟨rfl, hb⟩
  replace HB := Lib.hid (bl_step HB.out hb)
  clear HR1
  clear HR2
  clear HRT
  clear HR4
  clear hb HC
  clear E1 E2
  go_wp2
  go_ret
  exact ⟨rfl, HB.out⟩
end Go.Proofs.YtmfilnpbkonfaaaDoor
