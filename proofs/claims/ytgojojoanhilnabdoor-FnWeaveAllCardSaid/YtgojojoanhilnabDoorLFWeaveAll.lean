/- All woven rings have both parts: the law FnWeaveAll. -/
import Derived.Test.YtgojojoanhilnabDoorDraw6
import Derived.Test.YtgojojoanhilnabDoorDraw45
import Derived.Test.YtgojojoanhilnabDoorLawW
import Derived.Test.YtgojojoanhilnabDoorLaw6
namespace Go.Proofs.YtgojojoanhilnabDoor
open Go.ChangeShapes Go.WideShapes Go.ChangeAt Go.RowKit

set_option maxRecDepth 10000 in
set_option maxHeartbeats 4000000 in
theorem law_WeaveAll (a0 : Option Addr) (len0 cap0 : Nat) (z0 : List Int) (w : World) (w0 : IsRow .u8 w a0 len0 cap0 z0) (hTAB : Tab w) :
    Calls Tryd.prog 5 #[.slice a0 len0 cap0] w fun e w' => e = .returned (.bool true) ∧ Below w.heap.size w w' := by
  obtain ⟨h, hlc, hcm⟩ := byt_of_row w0
  have HD := Lib.hid (drawWeaveAll_any len0 cap0 w.heap.size a0 w h (Nat.le_refl _) hlc hcm)
  clear w0 h
  by_cases hn : len0 ≤ 1048576
  rotate_left
  · go_enter Tryd.func5, Tryd.ntmps5
    go_wp2_with fail
    go_ret
    exact ⟨rfl, Below.refl _ _⟩
  go_enter Tryd.func5, Tryd.ntmps5
  go_wp2_with fail
  refine HD.out.mono ?_
  rintro e w1 ⟨v, v', n1, p, q, rfl, ⟨A1, m1, c1, rfl, hr1⟩, ⟨A2, m2, c2, rfl, hr2⟩, hm, hb⟩
  have HB := Lib.hid hb
  have HR1 := Lib.hid hr1
  have HR2 := Lib.hid hr2
  have HRT := Lib.hid (hTAB.step hb)
  clear hTAB
  clear hb hr1 hr2 HD
  have HC := Lib.hid (cI_WeaveAll HR1.out HR2.out (n1 : Int) HRT.out)
  go_wp2_with fail
  refine HC.out.mono ?_
  rintro e w2 ⟨v, rfl, ⟨A3, n3, c3, rfl, hr⟩, hb⟩
  replace HB := Lib.hid (bl_step HB.out hb)
  replace HR1 := Lib.hid (HR1.out.step hb)
  replace HR2 := Lib.hid (HR2.out.step hb)
  replace HRT := Lib.hid (HRT.out.step hb)
  have HR3 := Lib.hid hr
  clear hr
  clear hb HC
  have HC := Lib.hid (cS_WeaveAll HR1.out HR2.out (n1 : Int))
  go_wp2_with fail
  refine HC.out.mono ?_
  rintro e w3 ⟨v, rfl, ⟨A4, n4, c4, rfl, hr⟩, hb⟩
  replace HB := Lib.hid (bl_step HB.out hb)
  replace HR1 := Lib.hid (HR1.out.step hb)
  replace HR2 := Lib.hid (HR2.out.step hb)
  replace HRT := Lib.hid (HRT.out.step hb)
  replace HR3 := Lib.hid (HR3.out.step hb)
  have HR4 := Lib.hid hr
  clear hr
  clear hb HC
  have HS := Lib.hid (fun (W : World) (hb : Below w3.heap.size w3 W) => sameS_any (HR3.out.step hb) (HR4.out.step hb))
  rw [sameR_self] at HS
  by_cases hk : wov (n1 : Int) p q = true
  rotate_left
  · rw [(by simpa using hk : wov (n1 : Int) p q = false)]
    clear hk HR1 HR2 HRT HR3 HR4
    have HZ := Lib.hid (Below.refl w3.heap.size w3)
    go_wp2_with (first | (go_at_call 19; refine (HS.out _ (by first | exact HZ.out | exact HZ.out.drew)).mono ?_; rintro e wz ⟨rfl, hb⟩; replace HZ := Lib.hid (bl_step HZ.out hb); clear hb))
    go_ret
    exact ⟨rfl, bl_step HB.out HZ.out⟩
  obtain ⟨hrow, hcnt⟩ := wa_told hk
  have hl3 := HR3.out.len
  rw [hl3] at hrow hcnt
  have HRO := Lib.hid hrow
  have E1 : Hid (wctR (n1 : Int) p q = (n3 : Int) ∧ wov (n1 : Int) p q = true) := ⟨hcnt, hk⟩
  rw [hk]
  clear hk hrow hcnt hl3
  generalize waR (n1 : Int) p q = M at *
  have HZ := Lib.hid (Below.refl w3.heap.size w3)
  go_wp2_with (first | (go_at_call 19; refine (HS.out _ (by first | exact HZ.out | exact HZ.out.drew)).mono ?_; rintro e wz ⟨rfl, hb⟩; replace HZ := Lib.hid (bl_step HZ.out hb); clear hb))
  replace HB := Lib.hid (bl_step HB.out HZ.out)
  replace HR1 := Lib.hid (HR1.out.step HZ.out)
  replace HR2 := Lib.hid (HR2.out.step HZ.out)
  replace HRT := Lib.hid (HRT.out.step HZ.out)
  replace HR3 := Lib.hid (HR3.out.step HZ.out)
  clear HR4
  clear HZ HS
  have HC := Lib.hid (cI_WeaveCount HR1.out HR2.out (n1 : Int) HRT.out)
  rw [E1.out.1, E1.out.2] at HC
  go_wp2_with fail
  refine HC.out.mono ?_
  rintro e w4 ⟨rfl, hb⟩
  replace HB := Lib.hid (bl_step HB.out hb)
  replace HR1 := Lib.hid (HR1.out.step hb)
  replace HR2 := Lib.hid (HR2.out.step hb)
  replace HRT := Lib.hid (HRT.out.step hb)
  replace HR3 := Lib.hid (HR3.out.step hb)
  clear hb HC
  have HB0 := Lib.hid HB.out
  have HL3 := Lib.hid (fun (W : World) (hb : Below w4.heap.size w4 W) => HR3.out.step hb)
  have HL1 := Lib.hid (fun (W : World) (hb : Below w4.heap.size w4 W) => HR1.out.step hb)
  have HL2 := Lib.hid (fun (W : World) (hb : Below w4.heap.size w4 W) => HR2.out.step hb)
  have HLT := Lib.hid (fun (W : World) (hb : Below w4.heap.size w4 W) => HRT.out.step hb)
  have hb3 := HR3.out.big
  clear HR1 HR2 HR3 HRT HB E1
  go_wp2_with fail
  go_loopw [12] (fun i wr => ∃ k : Nat, k ≤ n3 ∧ i = .int .i64 k ∧ Hid (Below w4.heap.size w4 wr)) (fun i _ => n3 - (intOf i).toNat)
  case atStart => exact ⟨0, Nat.zero_le _, rfl, Lib.hid (Below.refl _ _)⟩
  case round =>
    obtain ⟨k, hk, rfl, hbl⟩ := hrel
    by_cases hlt : k < n3
    · obtain ⟨b, o, rfl, hbH, hcs⟩ := (HL3.out wr hbl.out).rd.at_ (by omega)
      obtain ⟨Ak, ck, hc, hrk, hmd, hdm⟩ := hcs k hlt
      obtain ⟨el, e1, e2⟩ := HRO.out k hlt
      rw [el] at hc hrk hmd
      have hcc : wr.cell? ⟨b, o + k, none⟩ = some (.slice Ak n1 ck) := hc
      have HK := Lib.hid (fun (W : World) (hW : Below wr.heap.size wr W) => (hW.cell (p := ⟨b, o + k, none⟩) hbH).trans hcc)
      have HW1 := Lib.hid (fun (W : World) (hW : Below wr.heap.size wr W) => by
        have h := cI_WeaveHasR ((hrk.below hW).more hW.size) (by omega) hmd hdm (HL1.out W (bl_step hbl.out hW)) (HLT.out W (bl_step hbl.out hW))
        rw [e1] at h
        exact h)
      have HW2 := Lib.hid (fun (W : World) (hW : Below wr.heap.size wr W) => by
        have h := cI_WeaveHasR ((hrk.below hW).more hW.size) (by omega) hmd hdm (HL2.out W (bl_step hbl.out hW)) (HLT.out W (bl_step hbl.out hW))
        rw [e2] at h
        exact h)
      have HBL := Lib.hid (fun (W : World) (hW : Below wr.heap.size wr W) => bl_step hbl.out hW)
      have HST := Lib.hid (fun (V V' : World) (h1 : Below wr.heap.size wr V) (h2 : Below V.heap.size V V') => h1.trans (h2.mono h1.size))
      clear hcs hrk hmd hdm hc el e1 e2 hbl
      go_wp2_with fail
      refine (HW1.out _ (Below.refl _ _)).mono ?_
      rintro e w7 ⟨rfl, hb⟩
      have H1 := Lib.hid hb
      have hc1 := HK.out _ hb
      clear hb
      go_wp2_with fail
      refine (HW2.out _ H1.out).mono ?_
      rintro e w8 ⟨rfl, hb⟩
      have H2 := Lib.hid (HST.out _ _ H1.out hb)
      clear hb
      go_wp2_with fail
      go_roundw
      case rel => exact ⟨k + 1, by omega, by go_num, Lib.hid (HBL.out _ H2.out)⟩
      case measure => simp [intOf]; omega
    · obtain rfl : n3 = k := by omega
      clear HL1 HL2 HL3 HLT HRO
      go_wp2
      go_ret
      exact ⟨rfl, bl_step HB0.out hbl.out⟩
end Go.Proofs.YtgojojoanhilnabDoor
