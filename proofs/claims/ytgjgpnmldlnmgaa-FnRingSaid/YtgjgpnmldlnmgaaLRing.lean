/- Rings tell themselves: the law FnRing. -/
import Derived.Test.YtgjgpnmldlnmgaaDraw6
import Derived.Test.YtgjgpnmldlnmgaaRingM
import Derived.Test.YtgjgpnmldlnmgaaSameI
import Derived.Deep.RegionHeld3
namespace Go.Proofs.Ytgjgpnmldlnmgaa
open Go.ChangeShapes Go.WideShapes Go.ChangeAt Go.RowKit

set_option maxRecDepth 10000 in
set_option maxHeartbeats 4000000 in
theorem law_Ring (a0 : Option Addr) (len0 cap0 : Nat) (z0 : List Int) (w : World) (w0 : IsRow .u8 w a0 len0 cap0 z0) :
    Calls Try.prog 3 #[.slice a0 len0 cap0] w fun e w' => e = .returned (.bool true) ∧ Below w.heap.size w w' := by
  obtain ⟨h, hlc, hcm⟩ := byt_of_row w0
  have HD := Lib.hid (drawRingIn_any len0 cap0 w.heap.size a0 w h (Nat.le_refl _) hlc hcm)
  clear w0 h
  by_cases hn : len0 ≤ 1048576
  rotate_left
  · go_enter Try.func3, Try.ntmps3
    go_wp2_with fail
    go_ret
    exact ⟨rfl, Below.refl _ _⟩
  go_enter Try.func3, Try.ntmps3
  go_wp2_with fail
  refine HD.out.mono ?_
  rintro e w1 ⟨v, l, rfl, ⟨A, n, c, rfl, hr⟩, hl, hb⟩
  have HB := Lib.hid hb
  have HR := Lib.hid hr
  clear hb hr HD
  go_wp2_with fail
  refine (cI_RingIn HR.out).mono ?_
  rintro e w2 ⟨rfl, hb⟩
  replace HB := Lib.hid (bl_step HB.out hb)
  replace HR := Lib.hid (HR.out.step hb)
  clear hb
  go_wp2_with fail
  refine (cS_RingIn HR.out).mono ?_
  rintro e w3 ⟨rfl, hb⟩
  replace HB := Lib.hid (bl_step HB.out hb)
  replace HR := Lib.hid (HR.out.step hb)
  clear hb
  by_cases hk : Ring l
  rotate_left
  · rw [ring_no hk]
    clear hk
    go_wp2
    go_ret
    exact ⟨rfl, HB.out⟩
  rw [ring_yes hk]
  have E1 : Hid (tell l = true ∧ ofR l = l) := ⟨tell_yes hk.1, ofR_ring hk⟩
  have E2 : Hid (ringB l = true ∧ backR l = backL l) := ⟨ring_yes hk, by rw [backR, if_pos hk]⟩
  have E3 : Hid (ringB (backL l) = true) := ring_yes (backL_ring' hk)
  have E4 : Hid (same l l = true) := by simp [Hid, same]
  clear hk
  go_wp2_with fail
  have HC := Lib.hid (cI_RingOf HR.out)
  rw [E1.out.1, E1.out.2] at HC
  refine HC.out.mono ?_
  rintro e w4 ⟨v, rfl, ⟨A4, n4, c4, rfl, hr⟩, hb⟩
  replace HB := Lib.hid (bl_step HB.out hb)
  replace HR := Lib.hid (HR.out.step hb)
  have HR4 := Lib.hid hr
  clear hb hr HC
  go_wp2_with fail
  have HC := Lib.hid (cI_RingBack HR.out)
  rw [E2.out.1, E2.out.2] at HC
  refine HC.out.mono ?_
  rintro e w5 ⟨v, rfl, ⟨A5, n5, c5, rfl, hr⟩, hb⟩
  replace HB := Lib.hid (bl_step HB.out hb)
  replace HR := Lib.hid (HR.out.step hb)
  replace HR4 := Lib.hid (HR4.out.step hb)
  have HR5 := Lib.hid hr
  clear hb hr HC
  have HC := Lib.hid (sameI_any HR4.out HR.out)
  rw [E4.out] at HC
  have HC2 := Lib.hid (fun (W : World) (hb : Below w5.heap.size w5 W) => cI_RingIn (HR5.out.step hb))
  rw [E3.out] at HC2
  clear HR HR4 HR5
  go_wp2_with (first | (go_at_call 22; refine HC.out.mono ?_; rintro e w6 ⟨rfl, hb⟩; have HB6 := Lib.hid hb; clear hb) | (go_at_call 18; refine (HC2.out _ HB6.out).mono ?_; rintro e w7 ⟨rfl, hb⟩; have HB7 := Lib.hid (bl_step HB6.out hb); clear hb))
  go_ret
  exact ⟨rfl, bl_step HB.out HB7.out⟩
end Go.Proofs.Ytgjgpnmldlnmgaa
