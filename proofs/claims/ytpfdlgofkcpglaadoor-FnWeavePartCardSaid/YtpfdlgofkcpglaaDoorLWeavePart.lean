/- Parts that a ring has: the law FnWeavePart. -/
import Derived.Test.YtpfdlgofkcpglaaDoorDA
import Derived.Test.YtpfdlgofkcpglaaDoorLaw6
import Derived.Test.YtpfdlgofkcpglaaDoorSameI
import Derived.Test.YtpfdlgofkcpglaaDoorWvV
import Derived.Test.YtpfdlgofkcpglaaDoorWA
import Derived.Test.YtpfdlgofkcpglaaDoorWpR
namespace Go.Proofs.YtpfdlgofkcpglaaDoor
open Go.ChangeShapes Go.WideShapes Go.ChangeAt Go.RowKit

set_option maxRecDepth 10000 in
set_option maxHeartbeats 4000000 in
theorem law_WeavePart (a0 : Option Addr) (len0 cap0 : Nat) (z0 : List Int) (w : World) (w0 : IsRow .u8 w a0 len0 cap0 z0) (hTAB : Tab w) :
    Calls Tryd.prog 4 #[.slice a0 len0 cap0] w fun e w' => e = .returned (.bool true) ∧ Below w.heap.size w w' := by
  obtain ⟨h, hlc, hcm⟩ := byt_of_row w0
  have HD := Lib.hid (drawWeavePart_any len0 cap0 w.heap.size a0 w h (Nat.le_refl _) hlc hcm)
  clear w0 h
  by_cases hn : len0 ≤ 1048576
  rotate_left
  · go_enter Tryd.func4, Tryd.ntmps4
    go_wp2_with fail
    go_ret
    exact ⟨rfl, Below.refl _ _⟩
  go_enter Tryd.func4, Tryd.ntmps4
  go_wp2_with fail
  refine HD.out.mono ?_
  rintro e w1 ⟨v, l, x, rfl, ⟨A1, n1, c1, rfl, hr1⟩, hl, hb⟩
  have HB := Lib.hid hb
  have HR1 := Lib.hid hr1
  have HRT := Lib.hid (hTAB.step hb)
  clear hTAB
  clear hb hr1 HD
  have HC := Lib.hid (cI_WeavePartR HR1.out x HRT.out)
  go_wp2_with fail
  refine HC.out.mono ?_
  rintro e w2 ⟨v, rfl, ⟨A2, n2, c2, rfl, hr⟩, hb⟩
  replace HB := Lib.hid (bl_step HB.out hb)
  replace HR1 := Lib.hid (HR1.out.step hb)
  replace HRT := Lib.hid (HRT.out.step hb)
  have HR2 := Lib.hid hr
  clear hr
  clear hb HC
  have HC := Lib.hid (cS_WeavePart HR1.out x)
  go_wp2_with fail
  refine HC.out.mono ?_
  rintro e w3 ⟨v, rfl, ⟨A3, n3, c3, rfl, hr⟩, hb⟩
  replace HB := Lib.hid (bl_step HB.out hb)
  replace HR1 := Lib.hid (HR1.out.step hb)
  replace HRT := Lib.hid (HRT.out.step hb)
  replace HR2 := Lib.hid (HR2.out.step hb)
  have HR3 := Lib.hid hr
  clear hr
  clear hb HC
  have HS := Lib.hid (fun (W : World) (hb : Below w3.heap.size w3 W) => sameG_any (c' := c2) (d' := c3) (HR2.out.step hb) (HR3.out.step hb))
  rw [same_self] at HS
  by_cases hk : WP l x
  rotate_left
  · rw [(wp_no hk).1]
    clear hk HR1 HRT HR2 HR3
    have HZ := Lib.hid (Below.refl w3.heap.size w3)
    go_wp2_with (first | (go_at_call 25; refine (HS.out _ (by first | exact HZ.out | exact HZ.out.drew)).mono ?_; rintro e wz ⟨rfl, hb⟩; replace HZ := Lib.hid (bl_step HZ.out hb); clear hb))
    go_ret
    exact ⟨rfl, bl_step HB.out HZ.out⟩
  rw [(wp_yes hk).1]
  obtain ⟨k, rfl, hk0, hk1⟩ := wp_nat hk
  obtain ⟨hw1, hw2, hw3⟩ := part_is hk
  rw [(wp_yes hk).2, Int.toNat_natCast] at HR2
  have hz3 := hk.1.1.1
  have hz6 := hk.2.1
  rw [HR1.out.len] at hw2 hw3 hz3 hz6 hk1
  have E1 := Lib.hid hw1
  have E2 := Lib.hid hw2
  have E3 := Lib.hid hw3
  have K1 := Lib.hid hk1
  clear hk hk0 hk1 hw1 hw2 hw3 hl
  generalize partL l k = M at *
  have HZ := Lib.hid (Below.refl w3.heap.size w3)
  go_wp2_with (first | (go_at_call 25; refine (HS.out _ (by first | exact HZ.out | exact HZ.out.drew)).mono ?_; rintro e wz ⟨rfl, hb⟩; replace HZ := Lib.hid (bl_step HZ.out hb); clear hb))
  replace HB := Lib.hid (bl_step HB.out HZ.out)
  replace HR1 := Lib.hid (HR1.out.step HZ.out)
  replace HRT := Lib.hid (HRT.out.step HZ.out)
  replace HR2 := Lib.hid (HR2.out.step HZ.out)
  clear HR3
  clear HZ HS
  have HW := Lib.hid (fun (W : World) (hb : Below wz.heap.size wz W) => whI_any A1 n1 c1 A2 n2 c2 W.heap.size l M W (HR1.out.step hb).rd (HR2.out.step hb).rd (Nat.le_refl _) (HR1.out.step hb).big (HR2.out.step hb).big (HR1.out.step hb).2.1 (HR1.out.step hb).2.2.1 (HR2.out.step hb).2.1 (HR2.out.step hb).2.2.1 (HRT.out.step hb))
  rw [E1.out] at HW
  have HI := Lib.hid (fun (W : World) (hb : Below wz.heap.size wz W) => wiI_any A2 n2 c2 W.heap.size (n1 : Int) M W (HR2.out.step hb).rd (Nat.le_refl _) (HR2.out.step hb).big (HR2.out.step hb).2.1 (HR2.out.step hb).2.2.1)
  rw [E2.out] at HI
  obtain rfl | rfl | rfl | rfl : n1 = 3 ∨ n1 = 4 ∨ n1 = 5 ∨ n1 = 6 := by omega
  · rw [show ((3 : Nat) : Int) = 3 from rfl] at HI
    by_cases hf : k = 7
    · subst hf
      have eM := E3.out (by decide)
      have HS2 := Lib.hid (fun (W : World) (hb : Below wz.heap.size wz W) => sameG_any (c' := c2) (d' := c1) (HR2.out.step hb) (HR1.out.step hb))
      rw [eM, same_self] at HS2
      clear eM E1 E2 E3 K1 HR1 HR2 HRT
      have HZ := Lib.hid (Below.refl wz.heap.size wz)
      go_wp2_with (first | (go_at_call 26; refine (HW.out _ (by first | exact HZ.out | exact HZ.out.drew)).mono ?_; rintro e wz ⟨rfl, hb⟩; replace HZ := Lib.hid (bl_step HZ.out hb); clear hb) | (go_at_call 18; refine (HI.out _ (by first | exact HZ.out | exact HZ.out.drew)).mono ?_; rintro e wz ⟨rfl, hb⟩; replace HZ := Lib.hid (bl_step HZ.out hb); clear hb) | (go_at_call 25; refine (HS2.out _ (by first | exact HZ.out | exact HZ.out.drew)).mono ?_; rintro e wz ⟨rfl, hb⟩; replace HZ := Lib.hid (bl_step HZ.out hb); clear hb))
      go_ret
      exact ⟨rfl, bl_step HB.out HZ.out⟩
    · have hne : ((k : Int) != 7) = true := by simp; omega
      have hne2 : ¬ ((k : Int) = 7) := by omega
      clear hf E1 E2 E3 K1 HR1 HR2 HRT
      have HZ := Lib.hid (Below.refl wz.heap.size wz)
      go_wp2_with (first | (go_at_call 26; refine (HW.out _ (by first | exact HZ.out | exact HZ.out.drew)).mono ?_; rintro e wz ⟨rfl, hb⟩; replace HZ := Lib.hid (bl_step HZ.out hb); clear hb) | (go_at_call 18; refine (HI.out _ (by first | exact HZ.out | exact HZ.out.drew)).mono ?_; rintro e wz ⟨rfl, hb⟩; replace HZ := Lib.hid (bl_step HZ.out hb); clear hb))
      go_ret
      exact ⟨rfl, bl_step HB.out HZ.out⟩
  · rw [show ((4 : Nat) : Int) = 4 from rfl] at HI
    by_cases hf : k = 15
    · subst hf
      have eM := E3.out (by decide)
      have HS2 := Lib.hid (fun (W : World) (hb : Below wz.heap.size wz W) => sameG_any (c' := c2) (d' := c1) (HR2.out.step hb) (HR1.out.step hb))
      rw [eM, same_self] at HS2
      clear eM E1 E2 E3 K1 HR1 HR2 HRT
      have HZ := Lib.hid (Below.refl wz.heap.size wz)
      go_wp2_with (first | (go_at_call 26; refine (HW.out _ (by first | exact HZ.out | exact HZ.out.drew)).mono ?_; rintro e wz ⟨rfl, hb⟩; replace HZ := Lib.hid (bl_step HZ.out hb); clear hb) | (go_at_call 18; refine (HI.out _ (by first | exact HZ.out | exact HZ.out.drew)).mono ?_; rintro e wz ⟨rfl, hb⟩; replace HZ := Lib.hid (bl_step HZ.out hb); clear hb) | (go_at_call 25; refine (HS2.out _ (by first | exact HZ.out | exact HZ.out.drew)).mono ?_; rintro e wz ⟨rfl, hb⟩; replace HZ := Lib.hid (bl_step HZ.out hb); clear hb))
      go_ret
      exact ⟨rfl, bl_step HB.out HZ.out⟩
    · have hne : ((k : Int) != 15) = true := by simp; omega
      have hne2 : ¬ ((k : Int) = 15) := by omega
      clear hf E1 E2 E3 K1 HR1 HR2 HRT
      have HZ := Lib.hid (Below.refl wz.heap.size wz)
      go_wp2_with (first | (go_at_call 26; refine (HW.out _ (by first | exact HZ.out | exact HZ.out.drew)).mono ?_; rintro e wz ⟨rfl, hb⟩; replace HZ := Lib.hid (bl_step HZ.out hb); clear hb) | (go_at_call 18; refine (HI.out _ (by first | exact HZ.out | exact HZ.out.drew)).mono ?_; rintro e wz ⟨rfl, hb⟩; replace HZ := Lib.hid (bl_step HZ.out hb); clear hb))
      go_ret
      exact ⟨rfl, bl_step HB.out HZ.out⟩
  · rw [show ((5 : Nat) : Int) = 5 from rfl] at HI
    by_cases hf : k = 31
    · subst hf
      have eM := E3.out (by decide)
      have HS2 := Lib.hid (fun (W : World) (hb : Below wz.heap.size wz W) => sameG_any (c' := c2) (d' := c1) (HR2.out.step hb) (HR1.out.step hb))
      rw [eM, same_self] at HS2
      clear eM E1 E2 E3 K1 HR1 HR2 HRT
      have HZ := Lib.hid (Below.refl wz.heap.size wz)
      go_wp2_with (first | (go_at_call 26; refine (HW.out _ (by first | exact HZ.out | exact HZ.out.drew)).mono ?_; rintro e wz ⟨rfl, hb⟩; replace HZ := Lib.hid (bl_step HZ.out hb); clear hb) | (go_at_call 18; refine (HI.out _ (by first | exact HZ.out | exact HZ.out.drew)).mono ?_; rintro e wz ⟨rfl, hb⟩; replace HZ := Lib.hid (bl_step HZ.out hb); clear hb) | (go_at_call 25; refine (HS2.out _ (by first | exact HZ.out | exact HZ.out.drew)).mono ?_; rintro e wz ⟨rfl, hb⟩; replace HZ := Lib.hid (bl_step HZ.out hb); clear hb))
      go_ret
      exact ⟨rfl, bl_step HB.out HZ.out⟩
    · have hne : ((k : Int) != 31) = true := by simp; omega
      have hne2 : ¬ ((k : Int) = 31) := by omega
      clear hf E1 E2 E3 K1 HR1 HR2 HRT
      have HZ := Lib.hid (Below.refl wz.heap.size wz)
      go_wp2_with (first | (go_at_call 26; refine (HW.out _ (by first | exact HZ.out | exact HZ.out.drew)).mono ?_; rintro e wz ⟨rfl, hb⟩; replace HZ := Lib.hid (bl_step HZ.out hb); clear hb) | (go_at_call 18; refine (HI.out _ (by first | exact HZ.out | exact HZ.out.drew)).mono ?_; rintro e wz ⟨rfl, hb⟩; replace HZ := Lib.hid (bl_step HZ.out hb); clear hb))
      go_ret
      exact ⟨rfl, bl_step HB.out HZ.out⟩
  · rw [show ((6 : Nat) : Int) = 6 from rfl] at HI
    by_cases hf : k = 63
    · subst hf
      have eM := E3.out (by decide)
      have HS2 := Lib.hid (fun (W : World) (hb : Below wz.heap.size wz W) => sameG_any (c' := c2) (d' := c1) (HR2.out.step hb) (HR1.out.step hb))
      rw [eM, same_self] at HS2
      clear eM E1 E2 E3 K1 HR1 HR2 HRT
      have HZ := Lib.hid (Below.refl wz.heap.size wz)
      go_wp2_with (first | (go_at_call 26; refine (HW.out _ (by first | exact HZ.out | exact HZ.out.drew)).mono ?_; rintro e wz ⟨rfl, hb⟩; replace HZ := Lib.hid (bl_step HZ.out hb); clear hb) | (go_at_call 18; refine (HI.out _ (by first | exact HZ.out | exact HZ.out.drew)).mono ?_; rintro e wz ⟨rfl, hb⟩; replace HZ := Lib.hid (bl_step HZ.out hb); clear hb) | (go_at_call 25; refine (HS2.out _ (by first | exact HZ.out | exact HZ.out.drew)).mono ?_; rintro e wz ⟨rfl, hb⟩; replace HZ := Lib.hid (bl_step HZ.out hb); clear hb))
      go_ret
      exact ⟨rfl, bl_step HB.out HZ.out⟩
    · have hne : ((k : Int) != 63) = true := by simp; omega
      have hne2 : ¬ ((k : Int) = 63) := by omega
      clear hf E1 E2 E3 K1 HR1 HR2 HRT
      have HZ := Lib.hid (Below.refl wz.heap.size wz)
      go_wp2_with (first | (go_at_call 26; refine (HW.out _ (by first | exact HZ.out | exact HZ.out.drew)).mono ?_; rintro e wz ⟨rfl, hb⟩; replace HZ := Lib.hid (bl_step HZ.out hb); clear hb) | (go_at_call 18; refine (HI.out _ (by first | exact HZ.out | exact HZ.out.drew)).mono ?_; rintro e wz ⟨rfl, hb⟩; replace HZ := Lib.hid (bl_step HZ.out hb); clear hb))
      go_ret
      exact ⟨rfl, bl_step HB.out HZ.out⟩
end Go.Proofs.YtpfdlgofkcpglaaDoor
