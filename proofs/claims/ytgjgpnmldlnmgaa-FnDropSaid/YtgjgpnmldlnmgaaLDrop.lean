/- Dropped points are put back: the law FnDrop. -/
import Derived.Test.YtgjgpnmldlnmgaaDraw7
import Derived.Test.YtgjgpnmldlnmgaaRingM
import Derived.Test.YtgjgpnmldlnmgaaSameI
import Derived.Test.YtgjgpnmldlnmgaaPutM
namespace Go.Proofs.Ytgjgpnmldlnmgaa
open Go.ChangeShapes Go.WideShapes Go.ChangeAt Go.RowKit

set_option maxRecDepth 10000 in
set_option maxHeartbeats 4000000 in
theorem law_Drop (a0 : Option Addr) (len0 cap0 : Nat) (z0 : List Int) (w : World) (w0 : IsRow .u8 w a0 len0 cap0 z0) :
    Calls Try.prog 14 #[.slice a0 len0 cap0] w fun e w' => e = .returned (.bool true) ∧ Below w.heap.size w w' := by
  obtain ⟨h, hlc, hcm⟩ := byt_of_row w0
  have HD := Lib.hid (drawRingDrop_any len0 cap0 w.heap.size a0 w h (Nat.le_refl _) hlc hcm)
  clear w0 h
  by_cases hn : len0 ≤ 1048576
  rotate_left
  · go_enter Try.func14, Try.ntmps14
    go_wp2_with fail
    go_ret
    exact ⟨rfl, Below.refl _ _⟩
  go_enter Try.func14, Try.ntmps14
  go_wp2_with fail
  refine HD.out.mono ?_
  rintro e w1 ⟨v, l, rfl, ⟨A1, n1, c1, rfl, hr1⟩, hl, hb⟩
  have HB := Lib.hid hb
  have HR1 := Lib.hid hr1
  clear hb hr1 HD
  have HC := Lib.hid (cI_RingDrop HR1.out)
  go_wp2_with fail
  refine HC.out.mono ?_
  rintro e w2 ⟨v, rfl, ⟨A2, n2, c2, rfl, hr⟩, hb⟩
  replace HB := Lib.hid (bl_step HB.out hb)
  replace HR1 := Lib.hid (HR1.out.step hb)
  have HR2 := Lib.hid hr
  clear hr
  clear hb HC
  have HC := Lib.hid (cS_RingDrop HR1.out)
  go_wp2_with fail
  refine HC.out.mono ?_
  rintro e w3 ⟨v, rfl, ⟨A3, n3, c3, rfl, hr⟩, hb⟩
  replace HB := Lib.hid (bl_step HB.out hb)
  replace HR1 := Lib.hid (HR1.out.step hb)
  replace HR2 := Lib.hid (HR2.out.step hb)
  have HR3 := Lib.hid hr
  clear hr
  clear hb HC
  have HS := Lib.hid (fun (W : World) (hb : Below w3.heap.size w3 W) => sameI_any (HR2.out.step hb) (HR3.out.step hb))
  rw [same_self] at HS
  by_cases hk : dropB l = true
  rotate_left
  · rw [(dropB_no hk)]
    clear hk HR1 HR2 HR3
    have HZ := Lib.hid (Below.refl w3.heap.size w3)
    go_wp2_with (first | (go_at_call 22; refine (HS.out _ (by first | exact HZ.out | exact HZ.out.drew)).mono ?_; rintro e wz ⟨rfl, hb⟩; replace HZ := Lib.hid (bl_step HZ.out hb); clear hb))
    go_ret
    exact ⟨rfl, bl_step HB.out HZ.out⟩
  rw [hk]
  have ER : dropR l = dropL l := by rw [dropR, if_pos hk]
  rw [ER] at HR2
  obtain ⟨hr, h3⟩ := dropB_yes hk
  obtain ⟨hrd, hdl, x, hx, hpx⟩ := drop_put hr h3
  have hln2 := HR2.out.len
  have HF := Lib.hid (found_end hrd (by have := hr.1.2.1; omega) hx hpx)
  rw [hln2] at HF
  have HFs := Lib.hid (found_step (dropL l) l)
  have hF0 : Hid (foundN (dropL l) l 0 = false) := rfl
  have E2 : Hid (ringB (dropL l) = true) := ring_yes hrd
  clear hk ER hr h3 hrd hdl hx hpx hln2
  generalize foundN (dropL l) l = F at *
  have HZ := Lib.hid (Below.refl w3.heap.size w3)
  go_wp2_with (first | (go_at_call 22; refine (HS.out _ (by first | exact HZ.out | exact HZ.out.drew)).mono ?_; rintro e wz ⟨rfl, hb⟩; replace HZ := Lib.hid (bl_step HZ.out hb); clear hb))
  replace HB := Lib.hid (bl_step HB.out HZ.out)
  replace HR1 := Lib.hid (HR1.out.step HZ.out)
  replace HR2 := Lib.hid (HR2.out.step HZ.out)
  clear HR3
  clear HZ HS
  have hn7 := HR2.out.2.2.2
  go_wp2
  go_loopw [8, 9] (fun s i wr => ∃ k : Nat, k ≤ n2 ∧ s = .bool (F k) ∧ i = .int .i64 k ∧ Hid (Rw wr A1 n1 c1 l) ∧ Hid (Rw wr A2 n2 c2 (dropL l)) ∧ Hid (Below w.heap.size w wr)) (fun _ i _ => n2 - (intOf i).toNat)
  case atStart => exact ⟨0, Nat.zero_le _, by rw [hF0.out], rfl, HR1, HR2, HB⟩
  case round =>
    obtain ⟨k, hk, rfl, rfl, hR1, hR2, hB⟩ := hrel
    clear HR1 HR2 HB
    by_cases hlt : k < n2
    · have HC := Lib.hid (cI_RingPut hR2.out (k : Int))
      have hst := Lib.hid (HFs.out k)
      generalize putB (dropL l) (k : Int) = u at HC hst
      generalize putR (dropL l) (k : Int) = r at HC hst
      go_wp2_with fail
      refine HC.out.mono ?_
      rintro e wx ⟨v, rfl, ⟨A5, n5, c5, rfl, hr⟩, hb⟩
      have HR1x := Lib.hid (hR1.out.step hb)
      have HR2x := Lib.hid (hR2.out.step hb)
      have HBx := Lib.hid (bl_step hB.out hb)
      have HR5 := Lib.hid hr
      clear hr hb HC hR1 hR2 hB
      generalize F k = f at *
      cases f
      · cases u
        · go_wp2
          go_roundw
          case rel => exact ⟨k + 1, by omega, by rw [hst.out]; rfl, by go_num, HR1x, HR2x, HBx⟩
          case measure => simp [intOf]; omega
        · have HS := Lib.hid (sameI_any HR5.out HR1x.out)
          rw [Bool.false_or, Bool.true_and] at hst
          generalize same r l = q at *
          have HZ := HBx
          go_wp2_with (go_at_call 22; refine HS.out.mono ?_; rintro e wy ⟨rfl, hb⟩; have HR1y := Lib.hid (HR1x.out.step hb); have HR2y := Lib.hid (HR2x.out.step hb); have HBy := Lib.hid (bl_step HBx.out hb); clear hb)
          go_roundw
          case rel => exact ⟨k + 1, by omega, by rw [hst.out], by go_num, HR1y, HR2y, HBy⟩
          case measure => simp [intOf]; omega
      · go_wp2
        go_roundw
        case rel => exact ⟨k + 1, by omega, by rw [hst.out]; rfl, by go_num, HR1x, HR2x, HBx⟩
        case measure => simp [intOf]; omega
    · obtain rfl : k = n2 := by omega
      rw [HF.out]
      have HC := Lib.hid (cI_RingIn hR2.out)
      rw [E2.out] at HC
      clear HF HFs hF0
      go_wp2_with (go_at_call 18; refine HC.out.mono ?_; rintro e wx ⟨rfl, hb⟩; have HBx := Lib.hid (bl_step hB.out hb); clear hb)
      go_ret
      exact ⟨rfl, HBx.out⟩
end Go.Proofs.Ytgjgpnmldlnmgaa
