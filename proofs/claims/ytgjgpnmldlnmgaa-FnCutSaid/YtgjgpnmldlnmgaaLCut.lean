/- Cut rings begin with their point: the law FnCut. -/
import Derived.Test.YtgjgpnmldlnmgaaDraw7
import Derived.Test.YtgjgpnmldlnmgaaRingM
import Derived.Test.YtgjgpnmldlnmgaaSameI
namespace Go.Proofs.Ytgjgpnmldlnmgaa
open Go.ChangeShapes Go.WideShapes Go.ChangeAt Go.RowKit

set_option maxRecDepth 10000 in
set_option maxHeartbeats 4000000 in
theorem law_Cut (a0 : Option Addr) (len0 cap0 : Nat) (z0 : List Int) (w : World) (w0 : IsRow .u8 w a0 len0 cap0 z0) :
    Calls Try.prog 6 #[.slice a0 len0 cap0] w fun e w' => e = .returned (.bool true) ∧ Below w.heap.size w w' := by
  obtain ⟨h, hlc, hcm⟩ := byt_of_row w0
  have HD := Lib.hid (drawRingCut_any len0 cap0 w.heap.size a0 w h (Nat.le_refl _) hlc hcm)
  clear w0 h
  by_cases hn : len0 ≤ 1048576
  rotate_left
  · go_enter Try.func6, Try.ntmps6
    go_wp2_with fail
    go_ret
    exact ⟨rfl, Below.refl _ _⟩
  go_enter Try.func6, Try.ntmps6
  go_wp2_with fail
  refine HD.out.mono ?_
  rintro e w1 ⟨v, l, x, rfl, ⟨A1, n1, c1, rfl, hr1⟩, hl, hb⟩
  have HB := Lib.hid hb
  have HR1 := Lib.hid hr1
  clear hb hr1 HD
  have HC := Lib.hid (cI_RingCut HR1.out x)
  go_wp2_with fail
  refine HC.out.mono ?_
  rintro e w2 ⟨v, rfl, ⟨A2, n2, c2, rfl, hr⟩, hb⟩
  replace HB := Lib.hid (bl_step HB.out hb)
  replace HR1 := Lib.hid (HR1.out.step hb)
  have HR2 := Lib.hid hr
  clear hr
  clear hb HC
  have HC := Lib.hid (cS_RingCut HR1.out x)
  go_wp2_with fail
  refine HC.out.mono ?_
  rintro e w3 ⟨v, rfl, ⟨A3, n3, c3, rfl, hr⟩, hb⟩
  replace HB := Lib.hid (bl_step HB.out hb)
  replace HR1 := Lib.hid (HR1.out.step hb)
  replace HR2 := Lib.hid (HR2.out.step hb)
  have HR3 := Lib.hid hr
  clear hr
  clear hb HC
  have HS := Lib.hid (fun (W : World) (hb : Below w3.heap.size w3 W) => sameI_any (HR2.out.step hb) (HR3.out.step hb))
  rw [same_self] at HS
  by_cases hk : hasB l x = true
  rotate_left
  · rw [hasB_no hk]
    clear hk HR1 HR2 HR3
    have HZ := Lib.hid (Below.refl w3.heap.size w3)
    go_wp2_with (first | (go_at_call 22; refine (HS.out _ (by first | exact HZ.out | exact HZ.out.drew)).mono ?_; rintro e wz ⟨rfl, hb⟩; replace HZ := Lib.hid (bl_step HZ.out hb); clear hb))
    go_ret
    exact ⟨rfl, bl_step HB.out HZ.out⟩
  rw [hk]
  have ER : cutR l x = cutL l x := by rw [cutR, if_pos hk]
  rw [ER] at HR2
  obtain ⟨hr, hx0, hx1, hx⟩ := hasB_yes hk
  have ht := cutL_tell hr.1 hx
  have E2 : Hid (tell (cutL l x) = true ∧ ofR (cutL l x) = l) := ⟨tell_yes ht, by rw [ofR, if_pos ht, cut_cut hr.1 hx hr.1.zero]; exact cut_zero l (idx_zero l (by have := hr.1.1; omega) hr.2)⟩
  have E3 : Hid (hasB l x = true ∧ nextR l x = (cutL l x).getD 1 0) := ⟨hk, by rw [nextR, if_pos hk, cutL_get l x 1 (by have := hr.1.1; omega)]⟩
  have hl3 := hr.1.1
  have hn2 : Hid (n2 = l.length) := by have := HR2.out.len; rw [cutL_len] at this; exact this.symm
  have hf := Lib.hid (cut_first hx)
  clear hk ER hr ht
  have HZ := Lib.hid (Below.refl w3.heap.size w3)
  go_wp2_with (first | (go_at_call 22; refine (HS.out _ (by first | exact HZ.out | exact HZ.out.drew)).mono ?_; rintro e wz ⟨rfl, hb⟩; replace HZ := Lib.hid (bl_step HZ.out hb); clear hb))
  replace HB := Lib.hid (bl_step HB.out HZ.out)
  replace HR1 := Lib.hid (HR1.out.step HZ.out)
  replace HR2 := Lib.hid (HR2.out.step HZ.out)
  clear HR3
  clear HZ HS
  have HC := Lib.hid (cI_RingOf HR2.out)
  rw [E2.out.1, E2.out.2] at HC
  go_wp2_with fail
  refine HC.out.mono ?_
  rintro e w4 ⟨v, rfl, ⟨A4, n4, c4, rfl, hr⟩, hb⟩
  replace HB := Lib.hid (bl_step HB.out hb)
  replace HR1 := Lib.hid (HR1.out.step hb)
  replace HR2 := Lib.hid (HR2.out.step hb)
  have HR4 := Lib.hid hr
  clear hr
  clear hb HC
  have HC := Lib.hid (cI_RingNext HR1.out x)
  rw [E3.out.1, E3.out.2] at HC
  go_wp2_with fail
  refine HC.out.mono ?_
  rintro e w5 ⟨rfl, hb⟩
  replace HB := Lib.hid (bl_step HB.out hb)
  replace HR1 := Lib.hid (HR1.out.step hb)
  replace HR2 := Lib.hid (HR2.out.step hb)
  replace HR4 := Lib.hid (HR4.out.step hb)
  clear hb HC
  have HS1 := Lib.hid (fun (W : World) (hb : Below w5.heap.size w5 W) => sameI_any (HR4.out.step hb) (HR1.out.step hb))
  rw [same_self] at HS1
  have hn2' := hn2.out
  obtain ⟨b, o, e, hbb, hcs⟩ := HR2.out.at_ (by omega)
  subst e
  have HK := Lib.hid (fun (W : World) (hb : Below w5.heap.size w5 W) => (⟨(hb.cell (p := ⟨b, o, none⟩) hbb).trans (by rw [← hf.out]; exact hcs 0 (by omega)), (hb.cell (p := ⟨b, o + 1, none⟩) hbb).trans (hcs 1 (by omega))⟩ : W.cell? ⟨b, o, none⟩ = some (.int .i64 x) ∧ W.cell? ⟨b, o + 1, none⟩ = some (.int .i64 ((cutL l x).getD 1 0))))
  clear hcs hf HR1 HR2 HR4
  generalize (cutL l x).getD 1 0 = d at *
  have hi0 : (0 : Int) < (n2 : Int) := by omega
  have hi1 : (1 : Int) < (n2 : Int) := by omega
  clear hn2 hn2' hl3
  have HZ := Lib.hid (Below.refl w5.heap.size w5)
  go_wp2_with (first | (go_at_call 22; refine (HS1.out _ (by first | exact HZ.out | exact HZ.out.drew)).mono ?_; rintro e wz ⟨rfl, hb⟩; replace HZ := Lib.hid (bl_step HZ.out hb); have hc0 := (HK.out _ HZ.out).1; have hc1 := (HK.out _ HZ.out).2; clear hb))
  go_ret
  exact ⟨rfl, bl_step HB.out HZ.out⟩
end Go.Proofs.Ytgjgpnmldlnmgaa
