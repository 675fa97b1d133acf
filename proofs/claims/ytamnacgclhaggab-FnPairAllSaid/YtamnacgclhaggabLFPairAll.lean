/- All partings say the ring: the law FnPairAll. -/
import Derived.Test.YtamnacgclhaggabDraw38
import Derived.Test.YtamnacgclhaggabLawT3
namespace Go.Proofs.Ytamnacgclhaggab
open Go.ChangeShapes Go.WideShapes Go.ChangeAt Go.RowKit

set_option maxRecDepth 10000 in
set_option maxHeartbeats 4000000 in
theorem law_PairAll (a0 : Option Addr) (len0 cap0 : Nat) (z0 : List Int) (w : World) (w0 : IsRow .u8 w a0 len0 cap0 z0) :
    Calls Try.prog 3 #[.slice a0 len0 cap0] w fun e w' => e = .returned (.bool true) ∧ Below w.heap.size w w' := by
  obtain ⟨h, hlc, hcm⟩ := byt_of_row w0
  have HD := Lib.hid (drawPairAll_any len0 cap0 w.heap.size a0 w h (Nat.le_refl _) hlc hcm)
  clear w0 h
  by_cases hn : len0 ≤ 1048576
  rotate_left
  · go_enter Try.func3, Try.ntmps3
    go_wp2_with fail
    go_ret
    exact ⟨rfl, Below.refl _ _⟩
  go_enter Try.func3, Try.ntmps3
  go_wp2_with fail
  refine HD.out.mono ?_
  rintro e w1 ⟨v, l, rfl, ⟨A1, n1, c1, rfl, hr1⟩, hll, hb⟩
  have HB := Lib.hid hb
  have HR1 := Lib.hid hr1
  clear hb hr1 HD
  have HC := Lib.hid (cI_PairAll HR1.out)
  go_wp2_with fail
  refine HC.out.mono ?_
  rintro e w2 ⟨v, rfl, ⟨A2, n2, c2, rfl, hr⟩, hb⟩
  replace HB := Lib.hid (bl_step HB.out hb)
  replace HR1 := Lib.hid (HR1.out.step hb)
  have HR2 := Lib.hid hr
  clear hr
  clear hb HC
  have HC := Lib.hid (cS_PairAll HR1.out)
  go_wp2_with fail
  refine HC.out.mono ?_
  rintro e w3 ⟨v, rfl, ⟨A3, n3, c3, rfl, hr⟩, hb⟩
  replace HB := Lib.hid (bl_step HB.out hb)
  replace HR1 := Lib.hid (HR1.out.step hb)
  replace HR2 := Lib.hid (HR2.out.step hb)
  have HR3 := Lib.hid hr
  clear hr
  clear hb HC
  have HS := Lib.hid (fun (W : World) (hb : Below w3.heap.size w3 W) => sameS_any (HR2.out.step hb) (HR3.out.step hb))
  rw [sameR_self] at HS
  by_cases hk : ringB l = true
  rotate_left
  · rw [(by simpa using hk : ringB l = false)]
    clear hk HR1 HR2 HR3
    have HZ := Lib.hid (Below.refl w3.heap.size w3)
    go_wp2_with (first | (go_at_call 15; refine (HS.out _ (by first | exact HZ.out | exact HZ.out.drew)).mono ?_; rintro e wz ⟨rfl, hb⟩; replace HZ := Lib.hid (bl_step HZ.out hb); clear hb))
    go_ret
    exact ⟨rfl, bl_step HB.out HZ.out⟩
  have hr : Ring l := by simpa [ringB] using hk
  have hl1 := HR1.out.len
  have hl2 := HR2.out.len
  have h7 := HR1.out.2.2.2
  have h3 := hr.1.1
  rw [hk]
  by_cases hs : n1 < 4
  · have hlt : (n1 : Int) < 4 := by omega
    have hz := pa_short hr (by omega)
    rw [hl2] at hz
    subst hz
    clear hr hs hl1 hl2 h7 h3 hk
    have HZ := Lib.hid (Below.refl w3.heap.size w3)
    go_wp2_with (first | (go_at_call 15; refine (HS.out _ (by first | exact HZ.out | exact HZ.out.drew)).mono ?_; rintro e wz ⟨rfl, hb⟩; replace HZ := Lib.hid (bl_step HZ.out hb); clear hb))
    replace HB := Lib.hid (bl_step HB.out HZ.out)
    clear HR1
    clear HR2
    clear HR3
    clear HZ HS
    go_ret
    exact ⟨rfl, HB.out⟩
  have hlt : ¬ (n1 : Int) < 4 := by omega
  obtain ⟨k, j, cc, b, e1, e2, ⟨k0, k1, k2, k3⟩, e3, e4, e5, e6, e7, e8, e9, e10⟩ := pa_told hr (by omega)
  rw [hl1] at e2 e4 e5
  rw [hl2] at e9
  rw [hl1] at h3
  have E1 := Lib.hid e1
  have E2 : Hid (rcount (n1 : Int) = cc ∧ (decide (3 ≤ (n1 : Int)) && decide ((n1 : Int) ≤ 7)) = true) := ⟨e2, by simp; omega⟩
  have E3 : Hid (byB (n1 : Int) j = true ∧ byR (n1 : Int) j = b) := ⟨e4, e5⟩
  have E6 := Lib.hid e6
  have E7 := Lib.hid e7
  have E8 : Hid (pmR l = (n2 : Int) ∧ pmB l = true) := ⟨e9, e8⟩
  have E10 : Hid (ringB l = true ∧ backR l = backL l) := ⟨hk, e10⟩
  have hw : IntKind.i64.wrap (k + 1) = k + 1 := IntWalk.i64_in _ (by omega)
  have hc0 : cc ≠ 0 := by omega
  have hwj : IntKind.i64.wrap j = j := IntWalk.i64_in _ (by rw [← e3, Int.tmod_eq_emod_of_nonneg (by omega)]; have := Int.emod_nonneg (k + 1) hc0; have := Int.emod_lt_of_pos (k + 1) (show 0 < cc by omega); omega)
  clear hk hr hs hl1 hl2 h7 h3 e1 e2 e4 e5 e6 e7 e8 e9 e10 k2 k3 k0 k1 hll
  generalize paR l = M at *
  have HZ := Lib.hid (Below.refl w3.heap.size w3)
  go_wp2_with (first | (go_at_call 15; refine (HS.out _ (by first | exact HZ.out | exact HZ.out.drew)).mono ?_; rintro e wz ⟨rfl, hb⟩; replace HZ := Lib.hid (bl_step HZ.out hb); clear hb))
  replace HB := Lib.hid (bl_step HB.out HZ.out)
  replace HR1 := Lib.hid (HR1.out.step HZ.out)
  replace HR2 := Lib.hid (HR2.out.step HZ.out)
  clear HR3
  clear HZ HS
  have HC := Lib.hid (cI_PairMany HR1.out)
  rw [E8.out.1, E8.out.2] at HC
  go_wp2_with fail
  refine HC.out.mono ?_
  rintro e w4 ⟨rfl, hb⟩
  replace HB := Lib.hid (bl_step HB.out hb)
  replace HR1 := Lib.hid (HR1.out.step hb)
  replace HR2 := Lib.hid (HR2.out.step hb)
  clear hb HC
  have HC := Lib.hid (cX_RingNumber HR1.out)
  rw [E1.out, E10.out.1] at HC
  go_wp2_with fail
  refine HC.out.mono ?_
  rintro e w5 ⟨rfl, hb⟩
  replace HB := Lib.hid (bl_step HB.out hb)
  replace HR1 := Lib.hid (HR1.out.step hb)
  replace HR2 := Lib.hid (HR2.out.step hb)
  clear hb HC
  have HC := Lib.hid (cX_RingCount (n1 : Int) w5)
  rw [E2.out.1, E2.out.2] at HC
  go_wp2_with fail
  refine HC.out.mono ?_
  rintro e w6 ⟨rfl, hb⟩
  replace HB := Lib.hid (bl_step HB.out hb)
  replace HR1 := Lib.hid (HR1.out.step hb)
  replace HR2 := Lib.hid (HR2.out.step hb)
  clear hb HC
  have HC := Lib.hid (cX_RingBy (n1 : Int) j w6)
  rw [E3.out.1, E3.out.2] at HC
  go_wp2_with fail
  refine HC.out.mono ?_
  rintro e w7 ⟨v, rfl, ⟨A4, n4, c4, rfl, hr⟩, hb⟩
  replace HB := Lib.hid (bl_step HB.out hb)
  replace HR1 := Lib.hid (HR1.out.step hb)
  replace HR2 := Lib.hid (HR2.out.step hb)
  have HR4 := Lib.hid hr
  clear hr
  clear hb HC
  have HC := Lib.hid (cI_PairAll HR4.out)
  rw [E6.out] at HC
  go_wp2_with fail
  refine HC.out.mono ?_
  rintro e w8 ⟨v, rfl, ⟨A5, n5, c5, rfl, hr⟩, hb⟩
  replace HB := Lib.hid (bl_step HB.out hb)
  replace HR1 := Lib.hid (HR1.out.step hb)
  replace HR2 := Lib.hid (HR2.out.step hb)
  replace HR4 := Lib.hid (HR4.out.step hb)
  have HR5 := Lib.hid hr
  clear hr
  clear hb HC
  have HC := Lib.hid (cM_RingBack HR1.out)
  rw [E10.out.1, E10.out.2] at HC
  go_wp2_with fail
  refine HC.out.mono ?_
  rintro e w9 ⟨v, rfl, ⟨A6, n6, c6, rfl, hr⟩, hb⟩
  replace HB := Lib.hid (bl_step HB.out hb)
  clear HR1
  replace HR2 := Lib.hid (HR2.out.step hb)
  replace HR4 := Lib.hid (HR4.out.step hb)
  replace HR5 := Lib.hid (HR5.out.step hb)
  have HR6 := Lib.hid hr
  clear hr
  clear hb HC
  have HS1 := Lib.hid (fun (W : World) (hb : Below w9.heap.size w9 W) => sameS_any (HR5.out.step hb) (HR2.out.step hb))
  have HS2 := Lib.hid (fun (W : World) (hb : Below w9.heap.size w9 W) => sameI_any (HR4.out.step hb) (HR6.out.step hb))
  have h7 := E7.out
  clear E1 E2 E3 E6 E7 E8 E10 HR2 HR4 HR5 HR6
  generalize paR b = M' at *
  generalize backL l = t at *
  cases hs : sameR M' M
  · rw [hs] at HS1
    clear h7 hs HS2
    have HZ := Lib.hid (Below.refl w9.heap.size w9)
    go_wp2_with (first | (go_at_call 15; refine (HS1.out _ (by first | exact HZ.out | exact HZ.out.drew)).mono ?_; rintro e wz ⟨rfl, hb⟩; replace HZ := Lib.hid (bl_step HZ.out hb); clear hb))
    go_ret
    exact ⟨rfl, bl_step HB.out HZ.out⟩
  · rw [hs] at HS1
    have h8 := h7 hs
    rw [h8] at HS2
    clear h7 h8 hs
    have HZ := Lib.hid (Below.refl w9.heap.size w9)
    go_wp2_with (first | (go_at_call 15; refine (HS1.out _ (by first | exact HZ.out | exact HZ.out.drew)).mono ?_; rintro e wz ⟨rfl, hb⟩; replace HZ := Lib.hid (bl_step HZ.out hb); clear hb) | (go_at_call 21; refine (HS2.out _ (by first | exact HZ.out | exact HZ.out.drew)).mono ?_; rintro e wz ⟨rfl, hb⟩; replace HZ := Lib.hid (bl_step HZ.out hb); clear hb))
    go_ret
    exact ⟨rfl, bl_step HB.out HZ.out⟩
end Go.Proofs.Ytamnacgclhaggab
