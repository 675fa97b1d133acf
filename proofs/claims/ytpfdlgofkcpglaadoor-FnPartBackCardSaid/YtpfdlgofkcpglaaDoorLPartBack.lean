/- Parts of rings gone the other way are the parts so: the law FnPartBack. -/
import Derived.Test.YtpfdlgofkcpglaaDoorDA
import Derived.Test.YtpfdlgofkcpglaaDoorLaw6
import Derived.Test.YtpfdlgofkcpglaaDoorSameI
import Derived.Test.YtpfdlgofkcpglaaDoorWvB
namespace Go.Proofs.YtpfdlgofkcpglaaDoor
open Go.ChangeShapes Go.WideShapes Go.ChangeAt Go.RowKit

set_option maxRecDepth 10000 in
set_option maxHeartbeats 4000000 in
theorem law_PartBack (a0 : Option Addr) (len0 cap0 : Nat) (z0 : List Int) (w : World) (w0 : IsRow .u8 w a0 len0 cap0 z0) (hTAB : Tab w) :
    Calls Tryd.prog 10 #[.slice a0 len0 cap0] w fun e w' => e = .returned (.bool true) ∧ Below w.heap.size w w' := by
  obtain ⟨h, hlc, hcm⟩ := byt_of_row w0
  have HD := Lib.hid (drawWeavePart_any len0 cap0 w.heap.size a0 w h (Nat.le_refl _) hlc hcm)
  clear w0 h
  by_cases hn : len0 ≤ 1048576
  rotate_left
  · go_enter Tryd.func10, Tryd.ntmps10
    go_wp2_with fail
    go_ret
    exact ⟨rfl, Below.refl _ _⟩
  go_enter Tryd.func10, Tryd.ntmps10
  go_wp2_with fail
  refine HD.out.mono ?_
  rintro e w1 ⟨v, l, x, rfl, ⟨A1, n1, c1, rfl, hr1⟩, hl, hb⟩
  have HB := Lib.hid hb
  have HR1 := Lib.hid hr1
  have HRT := Lib.hid (hTAB.step hb)
  clear hTAB
  clear hb hr1 HD
  have HC := Lib.hid (cI_WeavePart HR1.out x HRT.out)
  go_wp2_with fail
  refine HC.out.mono ?_
  rintro e w2 ⟨v, rfl, ⟨A2, n2, c2, rfl, hr⟩, hb⟩
  replace HB := Lib.hid (bl_step HB.out hb)
  replace HR1 := Lib.hid (HR1.out.step hb)
  replace HRT := Lib.hid (HRT.out.step hb)
  have HR2 := Lib.hid hr
  clear hr
  clear hb HC
  have HC := Lib.hid (cS_WeavePart HR1.out x)
  go_wp2_with fail
  refine HC.out.mono ?_
  rintro e w3 ⟨v, rfl, ⟨A3, n3, c3, rfl, hr⟩, hb⟩
  replace HB := Lib.hid (bl_step HB.out hb)
  replace HR1 := Lib.hid (HR1.out.step hb)
  replace HRT := Lib.hid (HRT.out.step hb)
  replace HR2 := Lib.hid (HR2.out.step hb)
  have HR3 := Lib.hid hr
  clear hr
  clear hb HC
  have HS := Lib.hid (fun (W : World) (hb : Below w3.heap.size w3 W) => sameG_any (c' := c2) (d' := c3) (HR2.out.step hb) (HR3.out.step hb))
  rw [same_self] at HS
  by_cases hk : WP l x
  rotate_left
  · rw [(wp_no hk).1]
    clear hk HR1 HRT HR2 HR3
    have HZ := Lib.hid (Below.refl w3.heap.size w3)
    go_wp2_with (first | (go_at_call 25; refine (HS.out _ (by first | exact HZ.out | exact HZ.out.drew)).mono ?_; rintro e wz ⟨rfl, hb⟩; replace HZ := Lib.hid (bl_step HZ.out hb); clear hb))
    go_ret
    exact ⟨rfl, bl_step HB.out HZ.out⟩
  rw [(wp_yes hk).1]
  obtain ⟨k, rfl, hk0, hk1⟩ := wp_nat hk
  have EW := part_back hk
  rw [(wp_yes hk).2, Int.toNat_natCast] at HR2
  have E1 : Hid (ringB l = true ∧ backR l = backL l) := ⟨ring_yes hk.1, by rw [backR, if_pos hk.1]⟩
  have E2 : Hid (wpB (backL l) (k : Int) = true ∧ wpR (backL l) (k : Int) = backL (partL l k)) := EW
  clear hk hk0 hk1 EW
  generalize partL l k = M at *
  have HZ := Lib.hid (Below.refl w3.heap.size w3)
  go_wp2_with (first | (go_at_call 25; refine (HS.out _ (by first | exact HZ.out | exact HZ.out.drew)).mono ?_; rintro e wz ⟨rfl, hb⟩; replace HZ := Lib.hid (bl_step HZ.out hb); clear hb))
  replace HB := Lib.hid (bl_step HB.out HZ.out)
  replace HR1 := Lib.hid (HR1.out.step HZ.out)
  replace HRT := Lib.hid (HRT.out.step HZ.out)
  replace HR2 := Lib.hid (HR2.out.step HZ.out)
  clear HR3
  clear HZ HS
  have HC := Lib.hid (c6I_RingBack HR1.out)
  rw [E1.out.1, E1.out.2] at HC
  go_wp2_with fail
  refine HC.out.mono ?_
  rintro e w4 ⟨v, rfl, ⟨A4, n4, c4, rfl, hr⟩, hb⟩
  replace HB := Lib.hid (bl_step HB.out hb)
  replace HR1 := Lib.hid (HR1.out.step hb)
  replace HRT := Lib.hid (HRT.out.step hb)
  replace HR2 := Lib.hid (HR2.out.step hb)
  have HR4 := Lib.hid hr
  clear hr
  clear hb HC
  have HC := Lib.hid (cI_WeavePart HR4.out (k : Int) HRT.out)
  rw [E2.out.1, E2.out.2] at HC
  go_wp2_with fail
  refine HC.out.mono ?_
  rintro e w5 ⟨v, rfl, ⟨A5, n5, c5, rfl, hr⟩, hb⟩
  replace HB := Lib.hid (bl_step HB.out hb)
  clear HR1
  clear HRT
  replace HR2 := Lib.hid (HR2.out.step hb)
  clear HR4
  have HR5 := Lib.hid hr
  clear hr
  clear hb HC
  clear E1 E2
  have hl2 := HR2.out.len
  have hl5 := HR5.out.len
  rw [backL_length, hl2] at hl5
  subst hl5
  have hn7 := HR2.out.2.2.2
  have HG := Lib.hid (fun (j : Nat) (hj : j < n2) => backL_get M j (by rw [hl2]; exact hj))
  rw [hl2] at HG
  clear hl2
  have HZ0 := Lib.hid (Below.refl w5.heap.size w5)
  go_wp2
  go_loopw [14] (fun i wr => ∃ k : Nat, k ≤ n2 ∧ i = .int .i64 k ∧ Hid (Rw wr A2 n2 n2 M) ∧ Hid (Rw wr A5 n2 n2 (backL M)) ∧ Hid (Below w5.heap.size w5 wr)) (fun i _ => n2 - (intOf i).toNat)
  case atStart => exact ⟨0, Nat.zero_le _, rfl, HR2, HR5, HZ0⟩
  case round =>
    obtain ⟨k, hk, rfl, hR2, hR5, hZ⟩ := hrel
    clear HR2 HR5 HZ0
    by_cases hlt : k < n2
    · obtain ⟨b, o, e, hbb, hcs⟩ := hR2.out.at_ (by omega)
      subst e
      obtain ⟨b', o', e, hbb', hcs'⟩ := hR5.out.at_ (by omega)
      subst e
      have hc' := hcs' k hlt
      rw [HG.out k hlt] at hc'
      have hj : (n2 - k) % n2 < n2 := Nat.mod_lt _ (by omega)
      have hc := hcs _ hj
      have hw1 : IntKind.i64.wrap ((n2 : Int) - (k : Int)) = ((n2 - k : Nat) : Int) := by rw [IntWalk.i64_in _ (by omega)]; omega
      have ht : Int.tmod ((n2 - k : Nat) : Int) (n2 : Int) = (((n2 - k) % n2 : Nat) : Int) := by rw [Int.tmod_eq_emod_of_nonneg (by omega)]; simp
      have hw2 : IntKind.i64.wrap ((((n2 - k) % n2 : Nat) : Int)) = (((n2 - k) % n2 : Nat) : Int) := IntWalk.i64_in _ (by omega)
      have hz : ((n2 : Int) == 0) = false := by simp; omega
      have hne : ((n2 : Int) != (n2 : Int)) = false := by simp
      clear hcs hcs'
      generalize M.getD ((n2 - k) % n2) 0 = y at *
      generalize (n2 - k) % n2 = j at *
      have hmk : n2 - k ≤ 7 := by omega
      generalize n2 - k = m at *
      have hb : (y != y) = false := by simp
      clear HG
      go_wp2
      go_quiet (fail)
      go_wp2
      go_roundw
      case rel => exact ⟨k + 1, by omega, by go_num, Lib.hid (hR2.out.step (below_drewN (Below.refl _ _) _)), Lib.hid (hR5.out.step (below_drewN (Below.refl _ _) _)), Lib.hid (below_drewN hZ.out _)⟩
      case measure => simp [intOf]; omega
    · obtain rfl : k = n2 := by omega
      clear HG
      go_wp2
      go_ret
      exact ⟨rfl, bl_step HB.out hZ.out⟩
end Go.Proofs.YtpfdlgofkcpglaaDoor
