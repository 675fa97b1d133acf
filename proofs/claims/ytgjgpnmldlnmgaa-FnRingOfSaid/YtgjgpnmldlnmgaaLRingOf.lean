/- Lists that go round tell one ring: the law FnRingOf. -/
import Derived.Test.YtgjgpnmldlnmgaaDraw10
import Derived.Test.YtgjgpnmldlnmgaaRingM
import Derived.Test.YtgjgpnmldlnmgaaSameI
namespace Go.Proofs.Ytgjgpnmldlnmgaa
open Go.ChangeShapes Go.WideShapes Go.ChangeAt Go.RowKit

set_option maxRecDepth 10000 in
set_option maxHeartbeats 4000000 in
theorem law_RingOf (a0 : Option Addr) (len0 cap0 : Nat) (z0 : List Int) (w : World) (w0 : IsRow .u8 w a0 len0 cap0 z0) :
    Calls Try.prog 4 #[.slice a0 len0 cap0] w fun e w' => e = .returned (.bool true) ∧ Below w.heap.size w w' := by
  obtain ⟨h, hlc, hcm⟩ := byt_of_row w0
  have HD := Lib.hid (drawRingOf_any len0 cap0 w.heap.size a0 w h (Nat.le_refl _) hlc hcm)
  clear w0 h
  by_cases hn : len0 ≤ 1048576
  rotate_left
  · go_enter Try.func4, Try.ntmps4
    go_wp2_with fail
    go_ret
    exact ⟨rfl, Below.refl _ _⟩
  go_enter Try.func4, Try.ntmps4
  go_wp2_with fail
  refine HD.out.mono ?_
  rintro e w1 ⟨v, l, rfl, ⟨A1, n1, c1, rfl, hr1⟩, hl, hb⟩
  have HB := Lib.hid hb
  have HR1 := Lib.hid hr1
  clear hb hr1 HD
  have HC := Lib.hid (cI_RingOf HR1.out)
  go_wp2_with fail
  refine HC.out.mono ?_
  rintro e w2 ⟨v, rfl, ⟨A2, n2, c2, rfl, hr⟩, hb⟩
  replace HB := Lib.hid (bl_step HB.out hb)
  replace HR1 := Lib.hid (HR1.out.step hb)
  have HR2 := Lib.hid hr
  clear hr
  clear hb HC
  have HC := Lib.hid (cS_RingOf HR1.out)
  go_wp2_with fail
  refine HC.out.mono ?_
  rintro e w3 ⟨v, rfl, ⟨A3, n3, c3, rfl, hr⟩, hb⟩
  replace HB := Lib.hid (bl_step HB.out hb)
  replace HR1 := Lib.hid (HR1.out.step hb)
  replace HR2 := Lib.hid (HR2.out.step hb)
  have HR3 := Lib.hid hr
  clear hr
  clear hb HC
  have HS := Lib.hid (fun (W : World) (hb : Below w3.heap.size w3 W) => sameI_any (HR2.out.step hb) (HR3.out.step hb))
  rw [same_self] at HS
  by_cases hk : Tell l
  rotate_left
  · rw [tell_no hk]
    clear hk HR1 HR2 HR3
    have HZ := Lib.hid (Below.refl w3.heap.size w3)
    go_wp2_with (first | (go_at_call 22; refine (HS.out _ (by first | exact HZ.out | exact HZ.out.drew)).mono ?_; rintro e wz ⟨rfl, hb⟩; replace HZ := Lib.hid (bl_step HZ.out hb); clear hb))
    go_ret
    exact ⟨rfl, bl_step HB.out HZ.out⟩
  rw [tell_yes hk]
  have ER : ofR l = cutL l 0 := by rw [ofR, if_pos hk]
  rw [ER] at HR2
  have hz := hk.zero
  have hrg := cutL_ring hk
  have hmem : l.getD 0 0 ∈ l := getD_mem l 0 (by have := hk.1; omega)
  have hb0 : hasB (cutL l 0) (l.getD 0 0) = true := hasB_of hrg ((cutL_mem l 0 _ hz).2 hmem)
  have E2 : Hid (hasB (cutL l 0) (l.getD 0 0) = true ∧ cutR (cutL l 0) (l.getD 0 0) = l) := ⟨hb0, by rw [cutR, if_pos hb0, cut_cut hk hz hmem, cut_head hk]⟩
  have E3 : Hid (ringB (cutL l 0) = true) := ring_yes hrg
  clear hk ER hz hrg hmem hb0
  have hi0 : 0 < n1 := by have := HR1.out.len; omega
  obtain ⟨b, o, e, hbb, hcs⟩ := HR1.out.at_ (by omega)
  subst e
  have HK := Lib.hid (fun (W : World) (hb : Below w3.heap.size w3 W) => ((hb.cell (p := ⟨b, o, none⟩) hbb).trans (hcs 0 (by omega)) : W.cell? ⟨b, o, none⟩ = some (.int .i64 (l.getD 0 0))))
  clear hcs
  have HZ := Lib.hid (Below.refl w3.heap.size w3)
  go_wp2_with (first | (go_at_call 22; refine (HS.out _ (by first | exact HZ.out | exact HZ.out.drew)).mono ?_; rintro e wz ⟨rfl, hb⟩; replace HZ := Lib.hid (bl_step HZ.out hb); have hc0 := HK.out _ HZ.out; clear hb))
  replace HB := Lib.hid (bl_step HB.out HZ.out)
  replace HR1 := Lib.hid (HR1.out.step HZ.out)
  replace HR2 := Lib.hid (HR2.out.step HZ.out)
  clear HR3
  clear HZ HS
  have HC := Lib.hid (cI_RingCut HR2.out (l.getD 0 0))
  rw [E2.out.1, E2.out.2] at HC
  go_wp2_with fail
  refine HC.out.mono ?_
  rintro e w4 ⟨v, rfl, ⟨A4, n4, c4, rfl, hr⟩, hb⟩
  replace HB := Lib.hid (bl_step HB.out hb)
  replace HR1 := Lib.hid (HR1.out.step hb)
  replace HR2 := Lib.hid (HR2.out.step hb)
  have HR4 := Lib.hid hr
  clear hr
  clear hb HC
  have HS1 := Lib.hid (fun (W : World) (hb : Below w4.heap.size w4 W) => sameI_any (HR4.out.step hb) (HR1.out.step hb))
  rw [same_self] at HS1
  have HS2 := Lib.hid (fun (W : World) (hb : Below w4.heap.size w4 W) => cI_RingIn (HR2.out.step hb))
  rw [E3.out] at HS2
  clear HR1 HR2 HR4 hc0
  have HZ := Lib.hid (Below.refl w4.heap.size w4)
  go_wp2_with (first | (go_at_call 22; refine (HS1.out _ (by first | exact HZ.out | exact HZ.out.drew)).mono ?_; rintro e wz ⟨rfl, hb⟩; replace HZ := Lib.hid (bl_step HZ.out hb); clear hb) | (go_at_call 18; refine (HS2.out _ (by first | exact HZ.out | exact HZ.out.drew)).mono ?_; rintro e wz ⟨rfl, hb⟩; replace HZ := Lib.hid (bl_step HZ.out hb); clear hb))
  go_ret
  exact ⟨rfl, bl_step HB.out HZ.out⟩
end Go.Proofs.Ytgjgpnmldlnmgaa
