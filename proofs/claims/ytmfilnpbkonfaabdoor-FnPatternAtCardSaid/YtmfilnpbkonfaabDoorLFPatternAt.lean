/- Patterns at sets are theirs: the law FnPatternAt. -/
import Derived.Test.YtmfilnpbkonfaabDoorDraw20
import Derived.Test.YtmfilnpbkonfaabDoorPnK
import Derived.Test.YtmfilnpbkonfaabDoorLaw8O
import Derived.Test.YtmfilnpbkonfaabDoorLaw8N
import Derived.Test.YtmfilnpbkonfaabDoorSameI
namespace Go.Proofs.YtmfilnpbkonfaabDoor
open Go.ChangeShapes Go.WideShapes Go.ChangeAt Go.RowKit

set_option maxRecDepth 10000 in
set_option maxHeartbeats 4000000 in
theorem law_PatternAt (a0 : Option Addr) (len0 cap0 : Nat) (z0 : List Int) (w : World) (w0 : IsRow .u8 w a0 len0 cap0 z0) (hTAB : Tab w) :
    Calls Tryd.prog 3 #[.slice a0 len0 cap0] w fun e w' => e = .returned (.bool true) ∧ Below w.heap.size w w' := by
  obtain ⟨h, hlc, hcm⟩ := byt_of_row w0
  have HD := Lib.hid (drawPatternAt_any len0 cap0 w.heap.size a0 w h (Nat.le_refl _) hlc hcm)
  clear w0 h
  by_cases hn : len0 ≤ 1048576
  rotate_left
  · go_enter Tryd.func3, Tryd.ntmps3
    go_wp2_with fail
    go_ret
    exact ⟨rfl, Below.refl _ _⟩
  go_enter Tryd.func3, Tryd.ntmps3
  go_wp2_with fail
  refine HD.out.mono ?_
  rintro e w1 ⟨v, l, v', p, x, rfl, ⟨A1, n1, c1, rfl, hr1⟩, ⟨A2, n2, c2, rfl, hr2⟩, hb⟩
  have HB := Lib.hid hb
  have HR1 := Lib.hid hr1
  have HR2 := Lib.hid hr2
  have HRT := Lib.hid (hTAB.step hb)
  clear hTAB
  clear hb hr1 hr2 HD
  have HC := Lib.hid (cI_PatternAt HR1.out HR2.out x HRT.out)
  go_wp2_with fail
  refine HC.out.mono ?_
  rintro e w2 ⟨rfl, hb⟩
  replace HB := Lib.hid (bl_step HB.out hb)
  replace HR1 := Lib.hid (HR1.out.step hb)
  replace HR2 := Lib.hid (HR2.out.step hb)
  replace HRT := Lib.hid (HRT.out.step hb)
  clear hb HC
  have HC := Lib.hid (cS_PatternAt HR1.out HR2.out x)
  go_wp2_with fail
  refine HC.out.mono ?_
  rintro e w3 ⟨rfl, hb⟩
  replace HB := Lib.hid (bl_step HB.out hb)
  replace HR1 := Lib.hid (HR1.out.step hb)
  replace HR2 := Lib.hid (HR2.out.step hb)
  replace HRT := Lib.hid (HRT.out.step hb)
  clear hb HC
  by_cases hk : paB l p x = true
  rotate_left
  · rw [show paB l p x = false by simpa using hk]
    clear hk
    go_wp2
    go_ret
    exact ⟨rfl, HB.out⟩
  obtain ⟨e1, e2, e3, e4, e5⟩ := pa_facts hk
  have E1 : Hid (poB l x = true ∧ poR l x = p) := ⟨e1, e2⟩
  have E2 : Hid (two8 l p = true) := e3
  rw [hk]
  clear hk e1 e2 e3
  have HC := Lib.hid (cI_PatternOf HR1.out x HRT.out)
  rw [E1.out.1, E1.out.2] at HC
  go_wp2_with fail
  refine HC.out.mono ?_
  rintro e w4 ⟨v, rfl, ⟨A4, n4, c4, rfl, hr⟩, hb⟩
  replace HB := Lib.hid (bl_step HB.out hb)
  replace HR1 := Lib.hid (HR1.out.step hb)
  replace HR2 := Lib.hid (HR2.out.step hb)
  replace HRT := Lib.hid (HRT.out.step hb)
  have HR4 := Lib.hid hr
  clear hr
  clear hb HC
  have hge : (1 : Int) ≤ (mnyN l p : Int) := by omega
  have HC := Lib.hid (cI_PatternMany HR1.out HR2.out HRT.out)
  rw [E2.out, e4] at HC
  go_wp2_with fail
  refine HC.out.mono ?_
  rintro e w5 ⟨rfl, hb⟩
  replace HB := Lib.hid (bl_step HB.out hb)
  clear HR1
  replace HR2 := Lib.hid (HR2.out.step hb)
  clear HRT
  replace HR4 := Lib.hid (HR4.out.step hb)
  clear hb HC
  clear E1 E2 e4 e5
  generalize mnyN l p = o at *
  have hge' : (o : Int) ≥ 1 := hge
  have HS := Lib.hid (fun (W : World) (hb : Below w5.heap.size w5 W) => sameG_any (c' := c4) (d' := c2) (HR4.out.step hb) (HR2.out.step hb))
  rw [same_self] at HS
  clear HR4 HR2
  have HZ := Lib.hid (Below.refl w5.heap.size w5)
  go_wp2_with (first | (go_at_call 12; refine (HS.out _ (by first | exact HZ.out | exact HZ.out.drew)).mono ?_; rintro e wz ⟨rfl, hb⟩; replace HZ := Lib.hid (bl_step HZ.out hb); clear hb))
  go_ret
  exact ⟨rfl, bl_step HB.out HZ.out⟩
end Go.Proofs.YtmfilnpbkonfaabDoor
