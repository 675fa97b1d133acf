/- Gone round twice the other way is the ring: the law FnBack. -/
import Derived.Test.YtgjgpnmldlnmgaaDraw6
import Derived.Test.YtgjgpnmldlnmgaaRingM
import Derived.Test.YtgjgpnmldlnmgaaSameI
namespace Go.Proofs.Ytgjgpnmldlnmgaa
open Go.ChangeShapes Go.WideShapes Go.ChangeAt Go.RowKit

set_option maxRecDepth 10000 in
set_option maxHeartbeats 4000000 in
theorem law_Back (a0 : Option Addr) (len0 cap0 : Nat) (z0 : List Int) (w : World) (w0 : IsRow .u8 w a0 len0 cap0 z0) :
    Calls Try.prog 5 #[.slice a0 len0 cap0] w fun e w' => e = .returned (.bool true) ∧ Below w.heap.size w w' := by
  obtain ⟨h, hlc, hcm⟩ := byt_of_row w0
  have HD := Lib.hid (drawRingBack_any len0 cap0 w.heap.size a0 w h (Nat.le_refl _) hlc hcm)
  clear w0 h
  by_cases hn : len0 ≤ 1048576
  rotate_left
  · go_enter Try.func5, Try.ntmps5
    go_wp2_with fail
    go_ret
    exact ⟨rfl, Below.refl _ _⟩
  go_enter Try.func5, Try.ntmps5
  go_wp2_with fail
  refine HD.out.mono ?_
  rintro e w1 ⟨v, l, rfl, ⟨A1, n1, c1, rfl, hr1⟩, hl, hb⟩
  have HB := Lib.hid hb
  have HR1 := Lib.hid hr1
  clear hb hr1 HD
  have HC := Lib.hid (cI_RingBack HR1.out)
  go_wp2_with fail
  refine HC.out.mono ?_
  rintro e w2 ⟨v, rfl, ⟨A2, n2, c2, rfl, hr⟩, hb⟩
  replace HB := Lib.hid (bl_step HB.out hb)
  replace HR1 := Lib.hid (HR1.out.step hb)
  have HR2 := Lib.hid hr
  clear hr
  clear hb HC
  have HC := Lib.hid (cS_RingBack HR1.out)
  go_wp2_with fail
  refine HC.out.mono ?_
  rintro e w3 ⟨v, rfl, ⟨A3, n3, c3, rfl, hr⟩, hb⟩
  replace HB := Lib.hid (bl_step HB.out hb)
  replace HR1 := Lib.hid (HR1.out.step hb)
  replace HR2 := Lib.hid (HR2.out.step hb)
  have HR3 := Lib.hid hr
  clear hr
  clear hb HC
  have HS := Lib.hid (fun (W : World) (hb : Below w3.heap.size w3 W) => sameI_any (HR2.out.step hb) (HR3.out.step hb))
  rw [same_self] at HS
  by_cases hk : Ring l
  rotate_left
  · rw [ring_no hk]
    clear hk HR1 HR2 HR3
    have HZ := Lib.hid (Below.refl w3.heap.size w3)
    go_wp2_with (first | (go_at_call 22; refine (HS.out _ (by first | exact HZ.out | exact HZ.out.drew)).mono ?_; rintro e wz ⟨rfl, hb⟩; replace HZ := Lib.hid (bl_step HZ.out hb); clear hb))
    go_ret
    exact ⟨rfl, bl_step HB.out HZ.out⟩
  rw [ring_yes hk]
  have ER : backR l = backL l := by rw [backR, if_pos hk]
  rw [ER] at HR2
  have hr2 := backL_ring' hk
  have E2 : Hid (ringB (backL l) = true ∧ backR (backL l) = l) := ⟨ring_yes hr2, by rw [backR, if_pos hr2, backL_back]⟩
  have m1 : (1 : Int) ∈ l := hk.1.has (by omega) (by have := hk.1.1; omega)
  have m2 : (2 : Int) ∈ l := hk.1.has (by omega) (by have := hk.1.1; omega)
  have hne : l.idxOf 2 ≠ l.idxOf 1 := idx_apart m2 m1 (by omega)
  have b1 : hasB2 l 1 2 = true := by rw [hasB2, hasB_of hk m1, hasB_of hk m2]; rfl
  have b2 : hasB2 (backL l) 2 1 = true := by rw [hasB2, hasB_of hr2 (backL_mem m1), hasB_of hr2 (backL_mem m2)]; rfl
  have E3 : Hid (hasB2 l 1 2 = true ∧ stepsR l 1 2 = stepsI l 1 2) := ⟨b1, by rw [stepsR, if_pos b1]⟩
  have E4 : Hid (hasB2 (backL l) 2 1 = true ∧ stepsR (backL l) 2 1 = stepsI l 1 2) := ⟨b2, by rw [stepsR, if_pos b2, steps_backL hk.1 m2 m1 hne, steps_back hk.1 m1 m2 (fun e => hne e.symm)]; omega⟩
  have E5 : Hid (same (backL l) l = false) := same_ne (backL_other hk.1)
  clear hk ER hr2 m1 m2 hne b1 b2
  generalize stepsI l 1 2 = d at E3 E4
  have HZ := Lib.hid (Below.refl w3.heap.size w3)
  go_wp2_with (first | (go_at_call 22; refine (HS.out _ (by first | exact HZ.out | exact HZ.out.drew)).mono ?_; rintro e wz ⟨rfl, hb⟩; replace HZ := Lib.hid (bl_step HZ.out hb); clear hb))
  replace HB := Lib.hid (bl_step HB.out HZ.out)
  replace HR1 := Lib.hid (HR1.out.step HZ.out)
  replace HR2 := Lib.hid (HR2.out.step HZ.out)
  clear HR3
  clear HZ HS
  have HC := Lib.hid (cI_RingBack HR2.out)
  rw [E2.out.1, E2.out.2] at HC
  go_wp2_with fail
  refine HC.out.mono ?_
  rintro e w4 ⟨v, rfl, ⟨A4, n4, c4, rfl, hr⟩, hb⟩
  replace HB := Lib.hid (bl_step HB.out hb)
  replace HR1 := Lib.hid (HR1.out.step hb)
  replace HR2 := Lib.hid (HR2.out.step hb)
  have HR4 := Lib.hid hr
  clear hr
  clear hb HC
  have HC := Lib.hid (cI_RingSteps HR1.out 1 2)
  rw [E3.out.1, E3.out.2] at HC
  go_wp2_with fail
  refine HC.out.mono ?_
  rintro e w5 ⟨rfl, hb⟩
  replace HB := Lib.hid (bl_step HB.out hb)
  replace HR1 := Lib.hid (HR1.out.step hb)
  replace HR2 := Lib.hid (HR2.out.step hb)
  replace HR4 := Lib.hid (HR4.out.step hb)
  clear hb HC
  have HC := Lib.hid (cI_RingSteps HR2.out 2 1)
  rw [E4.out.1, E4.out.2] at HC
  go_wp2_with fail
  refine HC.out.mono ?_
  rintro e w6 ⟨rfl, hb⟩
  replace HB := Lib.hid (bl_step HB.out hb)
  replace HR1 := Lib.hid (HR1.out.step hb)
  replace HR2 := Lib.hid (HR2.out.step hb)
  replace HR4 := Lib.hid (HR4.out.step hb)
  clear hb HC
  have HS1 := Lib.hid (fun (W : World) (hb : Below w6.heap.size w6 W) => sameI_any (HR4.out.step hb) (HR1.out.step hb))
  rw [same_self] at HS1
  have HS2 := Lib.hid (fun (W : World) (hb : Below w6.heap.size w6 W) => sameI_any (HR2.out.step hb) (HR1.out.step hb))
  rw [E5.out] at HS2
  clear HR1 HR2 HR4
  have HZ := Lib.hid (Below.refl w6.heap.size w6)
  go_wp2_with (first | (go_at_call_of 22 (Value.slice A4 n4 c4); refine (HS1.out _ (by first | exact HZ.out | exact HZ.out.drew)).mono ?_; rintro e wz ⟨rfl, hb⟩; replace HZ := Lib.hid (bl_step HZ.out hb); clear hb) | (go_at_call_of 22 (Value.slice A2 n2 c2); refine (HS2.out _ (by first | exact HZ.out | exact HZ.out.drew)).mono ?_; rintro e wz ⟨rfl, hb⟩; replace HZ := Lib.hid (bl_step HZ.out hb); clear hb))
  go_ret
  exact ⟨rfl, bl_step HB.out HZ.out⟩
end Go.Proofs.Ytgjgpnmldlnmgaa
