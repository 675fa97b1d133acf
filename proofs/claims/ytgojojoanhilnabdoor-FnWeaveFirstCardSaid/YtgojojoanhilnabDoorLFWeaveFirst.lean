/- First rings have all parts: the law FnWeaveFirst. -/
import Derived.Test.YtgojojoanhilnabDoorDraw48
import Derived.Test.YtgojojoanhilnabDoorLawWP
import Derived.Test.YtgojojoanhilnabDoorWvDr
namespace Go.Proofs.YtgojojoanhilnabDoor
open Go.ChangeShapes Go.WideShapes Go.ChangeAt Go.RowKit

set_option maxRecDepth 10000 in
set_option maxHeartbeats 4000000 in
theorem law_WeaveFirst (a0 : Option Addr) (len0 cap0 : Nat) (z0 : List Int) (w : World) (w0 : IsRow .u8 w a0 len0 cap0 z0) (hTAB : Tab w) :
    Calls Tryd.prog 3 #[.slice a0 len0 cap0] w fun e w' => e = .returned (.bool true) ∧ Below w.heap.size w w' := by
  obtain ⟨h, hlc, hcm⟩ := byt_of_row w0
  have HD := Lib.hid (drawWeaveFirst_any len0 cap0 w.heap.size a0 w h (Nat.le_refl _) hlc hcm)
  clear w0 h
  by_cases hn : len0 ≤ 1048576
  rotate_left
  · go_enter Tryd.func3, Tryd.ntmps3
    go_wp2_with fail
    go_ret
    exact ⟨rfl, Below.refl _ _⟩
  go_enter Tryd.func3, Tryd.ntmps3
  go_wp2_with fail
  refine HD.out.mono ?_
  rintro e w1 ⟨m, A1, n1, c1, L, rfl, hr1, ⟨hnc1, hcm1, hn3, hm3, hm6⟩, hb⟩
  have HB := Lib.hid hb
  have HR1 := Lib.hid hr1
  have HRT := Lib.hid (hTAB.step hb)
  clear hTAB
  clear hb hr1 HD
  have HC := Lib.hid (cI_WeaveFirst HR1.out (m : Int) HRT.out)
  go_wp2_with fail
  refine HC.out.mono ?_
  rintro e w2 ⟨v, rfl, ⟨A2, n2, c2, rfl, hr⟩, hb⟩
  replace HB := Lib.hid (bl_step HB.out hb)
  replace HR1 := Lib.hid (HR1.out.step hb)
  replace HRT := Lib.hid (HRT.out.step hb)
  have HR2 := Lib.hid hr
  clear hr
  clear hb HC
  have HC := Lib.hid (cS_WeaveFirst HR1.out (m : Int))
  go_wp2_with fail
  refine HC.out.mono ?_
  rintro e w3 ⟨v, rfl, ⟨A3, n3, c3, rfl, hr⟩, hb⟩
  replace HB := Lib.hid (bl_step HB.out hb)
  replace HR1 := Lib.hid (HR1.out.step hb)
  replace HRT := Lib.hid (HRT.out.step hb)
  replace HR2 := Lib.hid (HR2.out.step hb)
  have HR3 := Lib.hid hr
  clear hr
  clear hb HC
  have HS := Lib.hid (fun (W : World) (hb : Below w3.heap.size w3 W) => sameG_any (c' := c2) (d' := c3) (HR2.out.step hb) (HR3.out.step hb))
  rw [same_self] at HS
  by_cases hk : wfsB (m : Int) L = true
  rotate_left
  · rw [(by simpa using hk : wfsB (m : Int) L = false)]
    clear hk HR1 HRT HR2 HR3
    have HZ := Lib.hid (Below.refl w3.heap.size w3)
    go_wp2_with (first | (go_at_call 9; refine (HS.out _ (by first | exact HZ.out | exact HZ.out.drew)).mono ?_; rintro e wz ⟨rfl, hb⟩; replace HZ := Lib.hid (bl_step HZ.out hb); clear hb))
    go_ret
    exact ⟨rfl, bl_step HB.out HZ.out⟩
  obtain ⟨e1, e2, e3⟩ := wf_told hk
  have hl2 := HR2.out.len
  rw [e2] at hl2
  subst hl2
  rw [HR1.out.len] at e3
  have E1 := Lib.hid e1
  have E3 := Lib.hid e3
  rw [hk]
  clear hk e1 e2 e3
  generalize wfsR (m : Int) L = o at *
  have HZ := Lib.hid (Below.refl w3.heap.size w3)
  go_wp2_with (first | (go_at_call 9; refine (HS.out _ (by first | exact HZ.out | exact HZ.out.drew)).mono ?_; rintro e wz ⟨rfl, hb⟩; replace HZ := Lib.hid (bl_step HZ.out hb); clear hb))
  replace HB := Lib.hid (bl_step HB.out HZ.out)
  replace HR1 := Lib.hid (HR1.out.step HZ.out)
  replace HRT := Lib.hid (HRT.out.step HZ.out)
  replace HR2 := Lib.hid (HR2.out.step HZ.out)
  clear HR3
  clear HZ HS
  have HB0 := Lib.hid HB.out
  have HL1 := Lib.hid (fun (W : World) (hb : Below wz.heap.size wz W) => HR1.out.step hb)
  have HL2 := Lib.hid (fun (W : World) (hb : Below wz.heap.size wz W) => HR2.out.step hb)
  have HLT := Lib.hid (fun (W : World) (hb : Below wz.heap.size wz W) => HRT.out.step hb)
  have HRB := Lib.hid HR1.out.row
  have hnb := HR1.out.big
  clear HR1 HR2 HRT HB
  go_loopw [9] (fun i wr => ∃ k : Nat, k ≤ n1 ∧ i = .int .i64 k ∧ Hid (Below wz.heap.size wz wr)) (fun i _ => n1 - (intOf i).toNat)
  case atStart => exact ⟨0, Nat.zero_le _, rfl, Lib.hid (Below.refl _ _)⟩
  case round =>
    obtain ⟨k, hk, rfl, hbl⟩ := hrel
    by_cases hlt : k < n1
    · obtain ⟨b, o', rfl, hbH, hcs⟩ := (HL1.out wr hbl.out).rd.at_ (by omega)
      obtain ⟨Ak, ck, hc, hrk, hmd, hdm⟩ := hcs k hlt
      have hbk := HRB.out k hlt
      have h2 := HL2.out wr hbl.out
      have HC := Lib.hid (cI_WeaveHasG h2.rd ⟨h2.2.1, h2.2.2.1, h2.big⟩ (hrk.more (Nat.le_refl _)) ⟨hmd, hdm, hbk⟩ (HLT.out wr hbl.out))
      rw [E3.out k hlt] at HC
      have HBL := Lib.hid (fun (V : World) (h : Below wr.heap.size wr V) => bl_step hbl.out h)
      generalize (rowK L k).length = z at *
      clear hcs hrk hmd hdm hbk hbl h2
      go_wp2_with fail
      refine HC.out.mono ?_
      rintro e w7 ⟨rfl, hb⟩
      have H1 := Lib.hid (HBL.out _ hb)
      clear hb HC HBL
      go_wp2_with fail
      go_roundw
      case rel => exact ⟨k + 1, by omega, by go_num, H1⟩
      case measure => simp [intOf]; omega
    · obtain rfl : n1 = k := by omega
      have HC := Lib.hid (cW_RingIn (HL2.out wr hbl.out))
      rw [E1.out] at HC
      have HB1 := Lib.hid (bl_step HB0.out hbl.out)
      clear HL1 HL2 HLT HB0 hbl
      go_wp2_with (go_at_call 11; refine HC.out.mono ?_; rintro e w7 ⟨rfl, hb⟩; have HB2 := Lib.hid (bl_step HB1.out hb); clear hb)
      go_ret
      exact ⟨rfl, HB2.out⟩
end Go.Proofs.YtgojojoanhilnabDoor
