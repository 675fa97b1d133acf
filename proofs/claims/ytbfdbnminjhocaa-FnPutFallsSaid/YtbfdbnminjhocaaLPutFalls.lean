/- A new point adds a fall, or none: the law FnPutFalls. -/
import Derived.Test.YtbfdbnminjhocaaDraw12
import Derived.Test.YtbfdbnminjhocaaWindO
import Derived.Test.YtbfdbnminjhocaaSameI
namespace Go.Proofs.Ytbfdbnminjhocaa
open Go.ChangeShapes Go.WideShapes Go.ChangeAt Go.RowKit

set_option maxRecDepth 10000 in
set_option maxHeartbeats 4000000 in
theorem law_PutFalls (a0 : Option Addr) (len0 cap0 : Nat) (z0 : List Int) (w : World) (w0 : IsRow .u8 w a0 len0 cap0 z0) :
    Calls Try.prog 11 #[.slice a0 len0 cap0] w fun e w' => e = .returned (.bool true) ∧ Below w.heap.size w w' := by
  obtain ⟨h, hlc, hcm⟩ := byt_of_row w0
  have HD := Lib.hid (drawRingPut_any len0 cap0 w.heap.size a0 w h (Nat.le_refl _) hlc hcm)
  clear w0 h
  by_cases hn : len0 ≤ 1048576
  rotate_left
  · go_enter Try.func11, Try.ntmps11
    go_wp2_with fail
    go_ret
    exact ⟨rfl, Below.refl _ _⟩
  go_enter Try.func11, Try.ntmps11
  go_wp2_with fail
  refine HD.out.mono ?_
  rintro e w1 ⟨v, l, x, rfl, ⟨A1, n1, c1, rfl, hr1⟩, hl, hb⟩
  have HB := Lib.hid hb
  have HR1 := Lib.hid hr1
  clear hb hr1 HD
  have HC := Lib.hid (cI_RingPut HR1.out x)
  go_wp2_with fail
  refine HC.out.mono ?_
  rintro e w2 ⟨v, rfl, ⟨A2, n2, c2, rfl, hr⟩, hb⟩
  replace HB := Lib.hid (bl_step HB.out hb)
  replace HR1 := Lib.hid (HR1.out.step hb)
  have HR2 := Lib.hid hr
  clear hr
  clear hb HC
  have HC := Lib.hid (cS_RingPut HR1.out x)
  go_wp2_with fail
  refine HC.out.mono ?_
  rintro e w3 ⟨v, rfl, ⟨A3, n3, c3, rfl, hr⟩, hb⟩
  replace HB := Lib.hid (bl_step HB.out hb)
  replace HR1 := Lib.hid (HR1.out.step hb)
  replace HR2 := Lib.hid (HR2.out.step hb)
  have HR3 := Lib.hid hr
  clear hr
  clear hb HC
  have HS := Lib.hid (fun (W : World) (hb : Below w3.heap.size w3 W) => sameI_any (HR2.out.step hb) (HR3.out.step hb))
  rw [same_self] at HS
  by_cases hk : putB l x = true
  rotate_left
  · rw [(putB_no hk)]
    clear hk HR1 HR2 HR3
    have HZ := Lib.hid (Below.refl w3.heap.size w3)
    go_wp2_with (first | (go_at_call 25; refine (HS.out _ (by first | exact HZ.out | exact HZ.out.drew)).mono ?_; rintro e wz ⟨rfl, hb⟩; replace HZ := Lib.hid (bl_step HZ.out hb); clear hb))
    go_ret
    exact ⟨rfl, bl_step HB.out HZ.out⟩
  rw [hk]
  have ER : putR l x = putL l x := by rw [putR, if_pos hk]
  rw [ER] at HR2
  obtain ⟨hr, hx, h6, hr2, hx2, hnx, hdr⟩ := put_facts hk
  have hbb := hasB_of hr hx
  have hpf := put_falls hr hx h6
  have E2 : Hid (hasB l x = true ∧ nextR l x = l.getD ((l.idxOf x + 1) % l.length) 0) := ⟨hbb, by rw [nextR, if_pos hbb]⟩
  have E3 : Hid (ringB l = true ∧ wfR l = fallsL l) := ⟨ring_yes hr, by rw [wfR, if_pos hr]⟩
  have E4 : Hid (ringB (putL l x) = true ∧ wfR (putL l x) = fallsL (putL l x)) := ⟨ring_yes hr2, by rw [wfR, if_pos hr2]⟩
  have hbd := falls_bd l hr.1
  have hl7 := hr.1.2.1
  clear hk ER hr hx h6 hr2 hx2 hnx hdr hbb
  generalize fallsL l = f at *
  generalize fallsL (putL l x) = g at *
  generalize l.getD ((l.idxOf x + 1) % l.length) 0 = y at *
  have HPF := Lib.hid hpf
  clear hpf
  have HZ := Lib.hid (Below.refl w3.heap.size w3)
  go_wp2_with (first | (go_at_call 25; refine (HS.out _ (by first | exact HZ.out | exact HZ.out.drew)).mono ?_; rintro e wz ⟨rfl, hb⟩; replace HZ := Lib.hid (bl_step HZ.out hb); clear hb))
  replace HB := Lib.hid (bl_step HB.out HZ.out)
  replace HR1 := Lib.hid (HR1.out.step HZ.out)
  replace HR2 := Lib.hid (HR2.out.step HZ.out)
  clear HR3
  clear HZ HS
  have HC := Lib.hid (cI_RingNext HR1.out x)
  rw [E2.out.1, E2.out.2] at HC
  go_wp2_with fail
  refine HC.out.mono ?_
  rintro e w4 ⟨rfl, hb⟩
  replace HB := Lib.hid (bl_step HB.out hb)
  replace HR1 := Lib.hid (HR1.out.step hb)
  replace HR2 := Lib.hid (HR2.out.step hb)
  clear hb HC
  have HC := Lib.hid (cI_WindFalls HR1.out)
  rw [E3.out.1, E3.out.2] at HC
  go_wp2_with fail
  refine HC.out.mono ?_
  rintro e w5 ⟨rfl, hb⟩
  replace HB := Lib.hid (bl_step HB.out hb)
  clear HR1
  replace HR2 := Lib.hid (HR2.out.step hb)
  clear hb HC
  have HC := Lib.hid (cI_WindFalls HR2.out)
  rw [E4.out.1, E4.out.2] at HC
  go_wp2_with fail
  refine HC.out.mono ?_
  rintro e w6 ⟨rfl, hb⟩
  replace HB := Lib.hid (bl_step HB.out hb)
  clear HR2
  clear hb HC
  clear E2 E3 E4
  have hpf := HPF.out
  clear HPF
  have hw : IntKind.i64.wrap (f + 1) = f + 1 := IntWalk.i64_in _ (by omega)
  by_cases hyx : y < x
  · rw [if_pos hyx] at hpf
    have hg : g = f := by omega
    subst hg
    have hd : decide (y < x) = true := by simpa using hyx
    clear hpf hyx hbd hl hl7
    go_wp2
    go_ret
    exact ⟨rfl, HB.out⟩
  · rw [if_neg hyx] at hpf
    have hg : g = f + 1 := by omega
    subst hg
    have hd : decide (y < x) = false := by simpa using hyx
    have hb1 : (f + 1 == f) = false := by rw [beq_eq_false_iff_ne]; omega
    clear hpf hyx hbd hl hl7
    go_wp2
    go_ret
    exact ⟨rfl, HB.out⟩
end Go.Proofs.Ytbfdbnminjhocaa
