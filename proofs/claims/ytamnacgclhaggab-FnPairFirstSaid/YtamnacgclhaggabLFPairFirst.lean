/- First rings part all pairs: the law FnPairFirst. -/
import Derived.Test.YtamnacgclhaggabDraw37
import Derived.Test.YtamnacgclhaggabLawR
namespace Go.Proofs.Ytamnacgclhaggab
open Go.ChangeShapes Go.WideShapes Go.ChangeAt Go.RowKit

set_option maxRecDepth 10000 in
set_option maxHeartbeats 4000000 in
theorem law_PairFirst (a0 : Option Addr) (len0 cap0 : Nat) (z0 : List Int) (w : World) (w0 : IsRow .u8 w a0 len0 cap0 z0) :
    Calls Try.prog 5 #[.slice a0 len0 cap0] w fun e w' => e = .returned (.bool true) ∧ Below w.heap.size w w' := by
  obtain ⟨h, hlc, hcm⟩ := byt_of_row w0
  have HD := Lib.hid (drawPairFirst_any len0 cap0 w.heap.size a0 w h (Nat.le_refl _) hlc hcm)
  clear w0 h
  by_cases hn : len0 ≤ 1048576
  rotate_left
  · go_enter Try.func5, Try.ntmps5
    go_wp2_with fail
    go_ret
    exact ⟨rfl, Below.refl _ _⟩
  go_enter Try.func5, Try.ntmps5
  go_wp2_with fail
  refine HD.out.mono ?_
  rintro e w1 ⟨m, A1, n1, c1, L, rfl, hr1, ⟨hnc1, hcm1, hn8, hm3, hm10⟩, hb⟩
  have HB := Lib.hid hb
  have HR1 := Lib.hid hr1
  clear hb hr1 HD
  have HC := Lib.hid (cI_PairFirst HR1.out (m : Int))
  go_wp2_with fail
  refine HC.out.mono ?_
  rintro e w2 ⟨v, rfl, ⟨A2, n2, c2, rfl, hr⟩, hb⟩
  replace HB := Lib.hid (bl_step HB.out hb)
  replace HR1 := Lib.hid (HR1.out.step hb)
  have HR2 := Lib.hid hr
  clear hr
  clear hb HC
  have HC := Lib.hid (cS_PairFirst HR1.out (m : Int))
  go_wp2_with fail
  refine HC.out.mono ?_
  rintro e w3 ⟨v, rfl, ⟨A3, n3, c3, rfl, hr⟩, hb⟩
  replace HB := Lib.hid (bl_step HB.out hb)
  replace HR1 := Lib.hid (HR1.out.step hb)
  replace HR2 := Lib.hid (HR2.out.step hb)
  have HR3 := Lib.hid hr
  clear hr
  clear hb HC
  have HS := Lib.hid (fun (W : World) (hb : Below w3.heap.size w3 W) => sameG_any (c' := c2) (d' := c3) (HR2.out.step hb) (HR3.out.step hb))
  rw [same_self] at HS
  by_cases hk : pfB (m : Int) L = true
  rotate_left
  · rw [(by simpa using hk : pfB (m : Int) L = false)]
    clear hk HR1 HR2 HR3
    have HZ := Lib.hid (Below.refl w3.heap.size w3)
    go_wp2_with (first | (go_at_call 21; refine (HS.out _ (by first | exact HZ.out | exact HZ.out.drew)).mono ?_; rintro e wz ⟨rfl, hb⟩; replace HZ := Lib.hid (bl_step HZ.out hb); clear hb))
    go_ret
    exact ⟨rfl, bl_step HB.out HZ.out⟩
  obtain ⟨hr, hrb, hall, hnum⟩ := pf_told hk
  have E4 : Hid (ringB (pfR (m : Int) L) = true ∧ backR (pfR (m : Int) L) = backL (pfR (m : Int) L)) := ⟨ring_yes hr, by rw [backR, if_pos hr]⟩
  have E5 := Lib.hid (ring_yes hrb)
  have HAL := Lib.hid hall
  have HLN := Lib.hid HR1.out.len
  rw [hk]
  clear hk hr hrb hall
  generalize pfR (m : Int) L = l at *
  have HZ := Lib.hid (Below.refl w3.heap.size w3)
  go_wp2_with (first | (go_at_call 21; refine (HS.out _ (by first | exact HZ.out | exact HZ.out.drew)).mono ?_; rintro e wz ⟨rfl, hb⟩; replace HZ := Lib.hid (bl_step HZ.out hb); clear hb))
  replace HB := Lib.hid (bl_step HB.out HZ.out)
  replace HR1 := Lib.hid (HR1.out.step HZ.out)
  replace HR2 := Lib.hid (HR2.out.step HZ.out)
  clear HR3
  clear HZ HS
  have HC := Lib.hid (cM_RingBack HR2.out)
  rw [E4.out.1, E4.out.2] at HC
  go_wp2_with fail
  refine HC.out.mono ?_
  rintro e w4 ⟨v, rfl, ⟨A5, n5, c5, rfl, hr⟩, hb⟩
  replace HB := Lib.hid (bl_step HB.out hb)
  replace HR1 := Lib.hid (HR1.out.step hb)
  replace HR2 := Lib.hid (HR2.out.step hb)
  have HR5 := Lib.hid hr
  clear hr
  clear hb HC
  have HC := Lib.hid (cM_RingNumber HR2.out)
  rw [E4.out.1] at HC
  go_wp2_with fail
  refine HC.out.mono ?_
  rintro e w5 ⟨rfl, hb⟩
  replace HB := Lib.hid (bl_step HB.out hb)
  replace HR1 := Lib.hid (HR1.out.step hb)
  replace HR2 := Lib.hid (HR2.out.step hb)
  replace HR5 := Lib.hid (HR5.out.step hb)
  clear hb HC
  have HC := Lib.hid (cM_RingNumber HR5.out)
  rw [E5.out] at HC
  go_wp2_with fail
  refine HC.out.mono ?_
  rintro e w6 ⟨rfl, hb⟩
  replace HB := Lib.hid (bl_step HB.out hb)
  replace HR1 := Lib.hid (HR1.out.step hb)
  replace HR2 := Lib.hid (HR2.out.step hb)
  clear HR5
  clear hb HC
  generalize numR l = x at *
  generalize numR (backL l) = y at *
  have HB0 := Lib.hid HB.out
  have HL1 := Lib.hid (fun (W : World) (hb : Below w6.heap.size w6 W) => HR1.out.step hb)
  have HC := Lib.hid (fun (W : World) (hb : Below w6.heap.size w6 W) (k : Nat) (hk : k < L.length) (A' : Option Addr) (d : Nat) (h' : Rd W W.heap.size A' (rowK L k).length (rowK L k)) (hmd : (rowK L k).length ≤ d) (hdm : d ≤ 9223372036854775807) => by
    have h3 := (HAL.out _ (rowK_mem hk)).2
    have := cI_PairPartsR (HR2.out.step hb) h' (by omega) hmd hdm
    rw [(HAL.out _ (rowK_mem hk)).1] at this
    exact this)
  clear HAL HR1 HR2 HB E4 E5
  go_wp2
  go_loopw [15] (fun i wr => ∃ k : Nat, k ≤ n1 ∧ i = .int .i64 k ∧ Hid (Below w6.heap.size w6 wr)) (fun i _ => n1 - (intOf i).toNat)
  case atStart => exact ⟨0, Nat.zero_le _, rfl, Lib.hid (Below.refl _ _)⟩
  case round =>
    obtain ⟨k, hk, rfl, hbl⟩ := hrel
    by_cases hlt : k < n1
    · obtain ⟨b, o, rfl, hbH, hcs⟩ := (HL1.out wr hbl.out).rd.at_ (by omega)
      obtain ⟨Ak, ck, hc, hrk, hmd, hdm⟩ := hcs k hlt
      have HCk := Lib.hid (HC.out wr hbl.out k (by rw [HLN.out]; exact hlt) _ _ hrk hmd hdm)
      clear hcs hrk hmd hdm
      generalize (rowK L k).length = lk at *
      go_wp2_with fail
      refine HCk.out.mono ?_
      rintro e w8 ⟨rfl, hb8⟩
      have HB8 := Lib.hid (bl_step hbl.out hb8)
      clear hb8
      go_wp2
      go_roundw
      case rel => exact ⟨k + 1, by omega, by go_num, HB8⟩
      case measure => simp [intOf]; omega
    · obtain rfl : n1 = k := by omega
      clear HC HL1
      go_wp2
      go_ret
      exact ⟨rfl, bl_step HB0.out hbl.out⟩
end Go.Proofs.Ytamnacgclhaggab
