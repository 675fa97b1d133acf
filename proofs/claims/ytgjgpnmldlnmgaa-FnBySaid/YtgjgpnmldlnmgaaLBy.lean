/- Greater numbers tell later rings: the law FnBy. -/
import Derived.Test.YtgjgpnmldlnmgaaDraw9
import Derived.Test.YtgjgpnmldlnmgaaRingM
import Derived.Test.YtgjgpnmldlnmgaaSameI
import Derived.Test.YtgjgpnmldlnmgaaRank
namespace Go.Proofs.Ytgjgpnmldlnmgaa
open Go.ChangeShapes Go.WideShapes Go.ChangeAt Go.RowKit

set_option maxRecDepth 10000 in
set_option maxHeartbeats 4000000 in
theorem law_By (a0 : Option Addr) (len0 cap0 : Nat) (z0 : List Int) (w : World) (w0 : IsRow .u8 w a0 len0 cap0 z0) :
    Calls Try.prog 12 #[.slice a0 len0 cap0] w fun e w' => e = .returned (.bool true) ∧ Below w.heap.size w w' := by
  obtain ⟨h, hlc, hcm⟩ := byt_of_row w0
  have HD := Lib.hid (drawRingBy_any len0 cap0 w.heap.size a0 w h (Nat.le_refl _) hlc hcm)
  clear w0 h
  by_cases hn : len0 ≤ 1048576
  rotate_left
  · go_enter Try.func12, Try.ntmps12
    go_wp2_with fail
    go_ret
    exact ⟨rfl, Below.refl _ _⟩
  go_enter Try.func12, Try.ntmps12
  go_wp2_with fail
  refine HD.out.mono ?_
  rintro e w1 ⟨x, y, rfl, hl, hb⟩
  have HB := Lib.hid hb
  clear hb  HD
  have HC := Lib.hid (cI_RingBy x y w1)
  go_wp2_with fail
  refine HC.out.mono ?_
  rintro e w2 ⟨v, rfl, ⟨A2, n2, c2, rfl, hr⟩, hb⟩
  replace HB := Lib.hid (bl_step HB.out hb)
  have HR2 := Lib.hid hr
  clear hr
  clear hb HC
  have HC := Lib.hid (cS_RingBy x y w2)
  go_wp2_with fail
  refine HC.out.mono ?_
  rintro e w3 ⟨v, rfl, ⟨A3, n3, c3, rfl, hr⟩, hb⟩
  replace HB := Lib.hid (bl_step HB.out hb)
  replace HR2 := Lib.hid (HR2.out.step hb)
  have HR3 := Lib.hid hr
  clear hr
  clear hb HC
  have HS := Lib.hid (fun (W : World) (hb : Below w3.heap.size w3 W) => sameI_any (HR2.out.step hb) (HR3.out.step hb))
  rw [same_self] at HS
  by_cases hk : byB x y = true
  rotate_left
  · rw [byB_no hk]
    clear hk HR2 HR3
    have HZ := Lib.hid (Below.refl w3.heap.size w3)
    go_wp2_with (first | (go_at_call 22; refine (HS.out _ (by first | exact HZ.out | exact HZ.out.drew)).mono ?_; rintro e wz ⟨rfl, hb⟩; replace HZ := Lib.hid (bl_step HZ.out hb); clear hb))
    go_ret
    exact ⟨rfl, bl_step HB.out HZ.out⟩
  rw [hk]
  have hbd : 3 ≤ x ∧ x ≤ 7 ∧ 0 ≤ y ∧ y < facN (x.toNat - 1) := by simpa [byB] using hk
  obtain ⟨m, hm⟩ : ∃ m : Nat, x = (m : Int) := ⟨x.toNat, by omega⟩
  subst hm
  rw [Int.toNat_natCast] at hbd
  have hm3 : 3 ≤ m := by omega
  have hm7 : m ≤ 7 := by omega
  have ht := by_tell m y hm3 hm7 hbd.2.2.1 hbd.2.2.2
  have ER : byR (m : Int) y = byL m y := by rw [byR, if_pos hk, Int.toNat_natCast]
  rw [ER] at HR2
  have E2 : Hid (ringB (byL m y) = true ∧ numR (byL m y) = y) := ⟨ring_yes ht.1, by rw [numR, if_pos ht.1, byL_length]; exact ht.2⟩
  have hf : facN (m - 1) ≤ 720 := by obtain rfl | rfl | rfl | rfl | rfl : m = 3 ∨ m = 4 ∨ m = 5 ∨ m = 6 ∨ m = 7 := by omega
                                     all_goals decide
  have hw : IntKind.i64.wrap (y + 1) = y + 1 := IntWalk.i64_in _ (by omega)
  have HLN := Lib.hid HR2.out.len
  clear hk ER ht
  have HZ := Lib.hid (Below.refl w3.heap.size w3)
  go_wp2_with (first | (go_at_call 22; refine (HS.out _ (by first | exact HZ.out | exact HZ.out.drew)).mono ?_; rintro e wz ⟨rfl, hb⟩; replace HZ := Lib.hid (bl_step HZ.out hb); clear hb))
  replace HB := Lib.hid (bl_step HB.out HZ.out)
  replace HR2 := Lib.hid (HR2.out.step HZ.out)
  clear HR3
  clear HZ HS
  have HC := Lib.hid (cI_RingNumber HR2.out)
  rw [E2.out.1, E2.out.2] at HC
  go_wp2_with fail
  refine HC.out.mono ?_
  rintro e w4 ⟨rfl, hb⟩
  replace HB := Lib.hid (bl_step HB.out hb)
  replace HR2 := Lib.hid (HR2.out.step hb)
  clear hb HC
  have HC := Lib.hid (cI_RingBy (m : Int) (y + 1) w4)
  go_wp2_with fail
  refine HC.out.mono ?_
  rintro e w5 ⟨v, rfl, ⟨A5, n5, c5, rfl, hr⟩, hb⟩
  replace HB := Lib.hid (bl_step HB.out hb)
  replace HR2 := Lib.hid (HR2.out.step hb)
  have HR5 := Lib.hid hr
  clear hr
  clear hb HC
  by_cases hv : byB (m : Int) (y + 1) = true
  rotate_left
  · rw [byB_no hv]
    clear hv HR2 HR5 E2 HLN hf hbd hw
    go_wp2
    go_loopw [14] (fun i wr => i = .int .i64 0 ∧ Hid (Below w.heap.size w wr)) (fun _ _ => 0)
    case atStart => exact ⟨rfl, HB⟩
    case round =>
      obtain ⟨rfl, hB⟩ := hrel
      go_wp2
      go_ret
      exact ⟨rfl, hB.out⟩
  rw [hv]
  have hv' : y + 1 < facN (m - 1) := by
    have : 3 ≤ (m : Int) ∧ (m : Int) ≤ 7 ∧ 0 ≤ y + 1 ∧ y + 1 < facN ((m : Int).toNat - 1) := by simpa [byB] using hv
    rw [Int.toNat_natCast] at this
    exact this.2.2.2
  have ER : byR (m : Int) (y + 1) = byL m (y + 1) := by rw [byR, if_pos hv, Int.toNat_natCast]
  rw [ER] at HR5
  obtain ⟨i0, hi0, hpre, hgt⟩ := by_later m y (y + 1) hm3 hm7 hbd.2.2.1 (by omega) hv'
  have HP := Lib.hid hpre
  have HG := Lib.hid hgt
  have HLN5 := Lib.hid HR5.out.len
  rw [byL_length] at HLN HLN5
  have en2 : m = n2 := HLN.out
  have en5 : m = n5 := HLN5.out
  subst en2
  subst en5
  obtain ⟨b, o, e, hbb, hcs⟩ := HR2.out.at_ (by omega)
  subst e
  obtain ⟨b', o', e, hbb', hcs'⟩ := HR5.out.at_ (by omega)
  subst e
  have HK := Lib.hid (fun (W : World) (hb : Below w5.heap.size w5 W) (k : Nat) (hk : k < m) => (⟨(hb.cell (p := ⟨b, o + k, none⟩) hbb).trans (hcs k hk), (hb.cell (p := ⟨b', o' + k, none⟩) hbb').trans (hcs' k hk)⟩ : W.cell? ⟨b, o + k, none⟩ = some (.int .i64 ((byL m y).getD k 0)) ∧ W.cell? ⟨b', o' + k, none⟩ = some (.int .i64 ((byL m (y + 1)).getD k 0))))
  clear hv ER hpre hgt hcs hcs' HR2 HR5 E2 HLN HLN5 hw hf hbd hv'
  generalize byL m y = C at *
  generalize byL m (y + 1) = D at *
  have HZ0 := Lib.hid (Below.refl w5.heap.size w5)
  go_wp2
  go_loopw [14] (fun i wr => ∃ k : Nat, k ≤ i0 ∧ i = .int .i64 k ∧ Hid (Below w5.heap.size w5 wr)) (fun i _ => i0 - (intOf i).toNat)
  case atStart => exact ⟨0, Nat.zero_le _, rfl, HZ0⟩
  case round =>
    obtain ⟨k, hk, rfl, hZ⟩ := hrel
    clear HZ0
    have hkm : k < m := by omega
    obtain ⟨hc, hc'⟩ := HK.out _ hZ.out k hkm
    by_cases hlt : k < i0
    · rw [HP.out k hlt] at hc'
      generalize C.getD k 0 = d at *
      have hb : (d != d) = false := by simp
      clear HP HG HK
      go_wp2
      go_quiet (fail)
      go_wp2
      go_roundw
      case rel => exact ⟨k + 1, by omega, by go_num, Lib.hid (below_drewN hZ.out _)⟩
      case measure => simp [intOf]; omega
    · obtain rfl : k = i0 := by omega
      have hg := HG.out
      generalize C.getD k 0 = d at *
      generalize D.getD k 0 = d' at *
      have hb : (d' != d) = true := by simp; omega
      have hb2 : decide (d < d') = true := by simpa using hg
      clear HP HG HK hg
      go_wp2
      go_quiet (fail)
      go_wp2
      go_quiet (fail)
      go_wp2
      go_ret
      exact ⟨rfl, bl_step HB.out (below_drewN hZ.out _)⟩
end Go.Proofs.Ytgjgpnmldlnmgaa
