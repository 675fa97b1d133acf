/- Points called otherwise keep their steps: the law FnNamed. -/
import Derived.Test.YtgjgpnmldlnmgaaDraw11
import Derived.Test.YtgjgpnmldlnmgaaRingM
import Derived.Test.YtgjgpnmldlnmgaaSameI
import Derived.Test.YtgjgpnmldlnmgaaNamedM
namespace Go.Proofs.Ytgjgpnmldlnmgaa
open Go.ChangeShapes Go.WideShapes Go.ChangeAt Go.RowKit

set_option maxRecDepth 10000 in
set_option maxHeartbeats 4000000 in
theorem law_Named (a0 : Option Addr) (len0 cap0 : Nat) (z0 : List Int) (w : World) (w0 : IsRow .u8 w a0 len0 cap0 z0) :
    Calls Try.prog 10 #[.slice a0 len0 cap0] w fun e w' => e = .returned (.bool true) ∧ Below w.heap.size w w' := by
  obtain ⟨h, hlc, hcm⟩ := byt_of_row w0
  have HD := Lib.hid (drawRingNamed_any len0 cap0 w.heap.size a0 w h (Nat.le_refl _) hlc hcm)
  clear w0 h
  by_cases hn : len0 ≤ 1048576
  rotate_left
  · go_enter Try.func10, Try.ntmps10
    go_wp2_with fail
    go_ret
    exact ⟨rfl, Below.refl _ _⟩
  go_enter Try.func10, Try.ntmps10
  go_wp2_with fail
  refine HD.out.mono ?_
  rintro e w1 ⟨v, v', l, p, rfl, ⟨A1, n1, c1, rfl, hr1⟩, ⟨A9, n9, c9, rfl, hr9⟩, hb⟩
  have HB := Lib.hid hb
  have HR1 := Lib.hid hr1
  have HR9 := Lib.hid hr9
  clear hb hr1 hr9 HD
  have HC := Lib.hid (cI_RingNamed HR1.out HR9.out)
  go_wp2_with fail
  refine HC.out.mono ?_
  rintro e w2 ⟨v, rfl, ⟨A2, n2, c2, rfl, hr⟩, hb⟩
  replace HB := Lib.hid (bl_step HB.out hb)
  replace HR1 := Lib.hid (HR1.out.step hb)
  replace HR9 := Lib.hid (HR9.out.step hb)
  have HR2 := Lib.hid hr
  clear hr
  clear hb HC
  have HC := Lib.hid (cS_RingNamed HR1.out HR9.out)
  go_wp2_with fail
  refine HC.out.mono ?_
  rintro e w3 ⟨v, rfl, ⟨A3, n3, c3, rfl, hr⟩, hb⟩
  replace HB := Lib.hid (bl_step HB.out hb)
  replace HR1 := Lib.hid (HR1.out.step hb)
  replace HR9 := Lib.hid (HR9.out.step hb)
  replace HR2 := Lib.hid (HR2.out.step hb)
  have HR3 := Lib.hid hr
  clear hr
  clear hb HC
  have HS := Lib.hid (fun (W : World) (hb : Below w3.heap.size w3 W) => sameI_any (HR2.out.step hb) (HR3.out.step hb))
  rw [same_self] at HS
  by_cases hk : namedB l p = true
  rotate_left
  · rw [(namedB_no hk)]
    clear hk HR1 HR9 HR2 HR3
    have HZ := Lib.hid (Below.refl w3.heap.size w3)
    go_wp2_with (first | (go_at_call 22; refine (HS.out _ (by first | exact HZ.out | exact HZ.out.drew)).mono ?_; rintro e wz ⟨rfl, hb⟩; replace HZ := Lib.hid (bl_step HZ.out hb); clear hb))
    go_ret
    exact ⟨rfl, bl_step HB.out HZ.out⟩
  rw [hk]
  have ER : namedR l p = cutL (callL l p) 0 := by rw [namedR, if_pos hk]
  rw [ER] at HR2
  obtain ⟨hr, ht, hpl⟩ := namedB_yes hk
  have E := Lib.hid (named_steps hr ht hpl)
  have h3 := hr.1.1
  have hln := Lib.hid HR1.out.len
  have hln2 : Hid (n2 = n1) := by have := HR2.out.len; rw [cutL_len, callL_len, hln.out] at this; exact this.symm
  have hln9 : Hid (n9 = n1) := by have := HR9.out.len; rw [hpl, hln.out] at this; exact this.symm
  clear hk ER hr ht hpl
  have HZ := Lib.hid (Below.refl w3.heap.size w3)
  go_wp2_with (first | (go_at_call 22; refine (HS.out _ (by first | exact HZ.out | exact HZ.out.drew)).mono ?_; rintro e wz ⟨rfl, hb⟩; replace HZ := Lib.hid (bl_step HZ.out hb); clear hb))
  replace HB := Lib.hid (bl_step HB.out HZ.out)
  replace HR1 := Lib.hid (HR1.out.step HZ.out)
  replace HR9 := Lib.hid (HR9.out.step HZ.out)
  replace HR2 := Lib.hid (HR2.out.step HZ.out)
  clear HR3
  clear HZ HS
  have HC := Lib.hid (cI_RingSteps HR1.out 0 1)
  rw [E.out.1, E.out.2.1] at HC
  go_wp2_with fail
  refine HC.out.mono ?_
  rintro e w4 ⟨rfl, hb⟩
  replace HB := Lib.hid (bl_step HB.out hb)
  replace HR1 := Lib.hid (HR1.out.step hb)
  replace HR9 := Lib.hid (HR9.out.step hb)
  replace HR2 := Lib.hid (HR2.out.step hb)
  clear hb HC
  have hi0 : 0 < n9 := by have := hln.out; have := hln9.out; omega
  have hi1 : (1 : Int) < (n9 : Int) := by have := hln.out; have := hln9.out; omega
  obtain ⟨b, o, e, hbb, hcs⟩ := HR9.out.at_ (by omega)
  subst e
  have HC := Lib.hid (fun (W : World) (hb : Below w4.heap.size w4 W) => cI_RingSteps (HR2.out.step hb) (p.getD 0 0) (p.getD 1 0))
  rw [E.out.2.2.1, E.out.2.2.2] at HC
  have HK := Lib.hid (fun (V : World) (hV : Below w4.heap.size w4 V) => (⟨(hV.cell (p := ⟨b, o, none⟩) hbb).trans (hcs 0 (by omega)), (hV.cell (p := ⟨b, o + 1, none⟩) hbb).trans (hcs 1 (by omega))⟩ : V.cell? ⟨b, o, none⟩ = some (.int .i64 (p.getD 0 0)) ∧ V.cell? ⟨b, o + 1, none⟩ = some (.int .i64 (p.getD 1 0))))
  have HZ := Lib.hid (Below.refl w4.heap.size w4).drew
  have hb2 : Hid (((n2 : Int) == (n1 : Int)) = true) := by rw [Hid, hln2.out]; simp
  clear hcs HR1 HR2 HR9 hln hln9 hln2
  generalize p.getD 0 0 = p0 at *
  generalize p.getD 1 0 = p1 at *
  generalize stepsI l 0 1 = d at *
  have hb3 := hb2.out
  clear hb2 E
  go_wp2_with fail
  go_region_held3 (fun V => V.cell? ⟨b, o, none⟩ = some (.int .i64 p0) ∧ V.cell? ⟨b, o + 1, none⟩ = some (.int .i64 p1))
    (first
      | exact HK.out _ HZ.out
      | exact HK.out _ H1.out)
    (first
      | (go_at_call 28; refine (HC.out _ HZ.out).mono ?_; rintro e wx ⟨rfl, hb⟩; have H1 := Lib.hid (bl_step HZ.out hb); clear hb))
  all_goals
    go_wp2
    go_ret
    exact ⟨rfl, bl_step HB.out H1.out⟩
end Go.Proofs.Ytgjgpnmldlnmgaa
