/- Sets have some pattern: the law FnPatternOf. -/
import Derived.Test.YtmfilnpbkonfaabDoorDraw21
import Derived.Test.YtmfilnpbkonfaabDoorPnK
import Derived.Test.YtmfilnpbkonfaabDoorLaw8O
import Derived.Test.YtmfilnpbkonfaabDoorLaw8R
import Derived.Test.YtmfilnpbkonfaabDoorSameI
namespace Go.Proofs.YtmfilnpbkonfaabDoor
open Go.ChangeShapes Go.WideShapes Go.ChangeAt Go.RowKit

set_option maxRecDepth 10000 in
set_option maxHeartbeats 4000000 in
theorem law_PatternOf (a0 : Option Addr) (len0 cap0 : Nat) (z0 : List Int) (w : World) (w0 : IsRow .u8 w a0 len0 cap0 z0) (hTAB : Tab w) :
    Calls Tryd.prog 5 #[.slice a0 len0 cap0] w fun e w' => e = .returned (.bool true) ∧ Below w.heap.size w w' := by
  obtain ⟨h, hlc, hcm⟩ := byt_of_row w0
  have HD := Lib.hid (drawPatternOf_any len0 cap0 w.heap.size a0 w h (Nat.le_refl _) hlc hcm)
  clear w0 h
  by_cases hn : len0 ≤ 1048576
  rotate_left
  · go_enter Tryd.func5, Tryd.ntmps5
    go_wp2_with fail
    go_ret
    exact ⟨rfl, Below.refl _ _⟩
  go_enter Tryd.func5, Tryd.ntmps5
  go_wp2_with fail
  refine HD.out.mono ?_
  rintro e w1 ⟨v, l, x, rfl, ⟨A1, n1, c1, rfl, hr1⟩, hl, hb⟩
  have HB := Lib.hid hb
  have HR1 := Lib.hid hr1
  have HRT := Lib.hid (hTAB.step hb)
  clear hTAB
  clear hb hr1 HD
  have HC := Lib.hid (cI_PatternOf HR1.out x HRT.out)
  go_wp2_with fail
  refine HC.out.mono ?_
  rintro e w2 ⟨v, rfl, ⟨A2, n2, c2, rfl, hr⟩, hb⟩
  replace HB := Lib.hid (bl_step HB.out hb)
  replace HR1 := Lib.hid (HR1.out.step hb)
  replace HRT := Lib.hid (HRT.out.step hb)
  have HR2 := Lib.hid hr
  clear hr
  clear hb HC
  have HC := Lib.hid (cS_PatternOf HR1.out x)
  go_wp2_with fail
  refine HC.out.mono ?_
  rintro e w3 ⟨v, rfl, ⟨A3, n3, c3, rfl, hr⟩, hb⟩
  replace HB := Lib.hid (bl_step HB.out hb)
  replace HR1 := Lib.hid (HR1.out.step hb)
  replace HRT := Lib.hid (HRT.out.step hb)
  replace HR2 := Lib.hid (HR2.out.step hb)
  have HR3 := Lib.hid hr
  clear hr
  clear hb HC
  have HS := Lib.hid (fun (W : World) (hb : Below w3.heap.size w3 W) => sameG_any (c' := c2) (d' := c3) (HR2.out.step hb) (HR3.out.step hb))
  rw [same_self] at HS
  by_cases hk : poB l x = true
  rotate_left
  · rw [show poB l x = false by simpa using hk]
    clear hk HR1 HRT HR2 HR3
    have HZ := Lib.hid (Below.refl w3.heap.size w3)
    go_wp2_with (first | (go_at_call 12; refine (HS.out _ (by first | exact HZ.out | exact HZ.out.drew)).mono ?_; rintro e wz ⟨rfl, hb⟩; replace HZ := Lib.hid (bl_step HZ.out hb); clear hb))
    go_ret
    exact ⟨rfl, bl_step HB.out HZ.out⟩
  have hf := po_facts hk
  have E1 : Hid (ringB (poR l x) = true) := ring_yes hf.1
  have E2 : Hid (paB l (poR l x) x = true) := hf.2
  rw [hk]
  clear hk hf
  have HZ := Lib.hid (Below.refl w3.heap.size w3)
  go_wp2_with (first | (go_at_call 12; refine (HS.out _ (by first | exact HZ.out | exact HZ.out.drew)).mono ?_; rintro e wz ⟨rfl, hb⟩; replace HZ := Lib.hid (bl_step HZ.out hb); clear hb))
  replace HB := Lib.hid (bl_step HB.out HZ.out)
  replace HR1 := Lib.hid (HR1.out.step HZ.out)
  replace HRT := Lib.hid (HRT.out.step HZ.out)
  replace HR2 := Lib.hid (HR2.out.step HZ.out)
  clear HR3
  clear HZ HS
  generalize poR l x = M at *
  have HI := Lib.hid (fun (W : World) (hb : Below wz.heap.size wz W) => c8I_RingIn (HR2.out.step hb))
  rw [E1.out] at HI
  have HAT := Lib.hid (fun (W : World) (hb : Below wz.heap.size wz W) => cI_PatternAt (HR1.out.step hb) (HR2.out.step hb) x (HRT.out.step hb))
  rw [E2.out] at HAT
  clear E1 E2 HR1 HR2 HRT
  have HZ := Lib.hid (Below.refl wz.heap.size wz)
  go_wp2_with (first | (go_at_call 18; refine (HI.out _ (by first | exact HZ.out | exact HZ.out.drew)).mono ?_; rintro e wz ⟨rfl, hb⟩; replace HZ := Lib.hid (bl_step HZ.out hb); clear hb) | (go_at_call 8; refine (HAT.out _ (by first | exact HZ.out | exact HZ.out.drew)).mono ?_; rintro e wz ⟨rfl, hb⟩; replace HZ := Lib.hid (bl_step HZ.out hb); clear hb))
  go_ret
  exact ⟨rfl, bl_step HB.out HZ.out⟩
end Go.Proofs.YtmfilnpbkonfaabDoor
