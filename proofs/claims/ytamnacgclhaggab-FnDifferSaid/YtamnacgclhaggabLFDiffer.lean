/- Rings that differ nowhere are the same: the law FnDiffer. -/
import Derived.Test.YtamnacgclhaggabDraw41
import Derived.Test.YtamnacgclhaggabLawD
namespace Go.Proofs.Ytamnacgclhaggab
open Go.ChangeShapes Go.WideShapes Go.ChangeAt Go.RowKit

set_option maxRecDepth 10000 in
set_option maxHeartbeats 4000000 in
theorem law_Differ (a0 : Option Addr) (len0 cap0 : Nat) (z0 : List Int) (w : World) (w0 : IsRow .u8 w a0 len0 cap0 z0) :
    Calls Try.prog 9 #[.slice a0 len0 cap0] w fun e w' => e = .returned (.bool true) ∧ Below w.heap.size w w' := by
  obtain ⟨h, hlc, hcm⟩ := byt_of_row w0
  have HD := Lib.hid (drawSwapDiffer_any len0 cap0 w.heap.size a0 w h (Nat.le_refl _) hlc hcm)
  clear w0 h
  by_cases hn : len0 ≤ 1048576
  rotate_left
  · go_enter Try.func9, Try.ntmps9
    go_wp2_with fail
    go_ret
    exact ⟨rfl, Below.refl _ _⟩
  go_enter Try.func9, Try.ntmps9
  go_wp2_with fail
  refine HD.out.mono ?_
  rintro e w1 ⟨v, v', l, t, rfl, ⟨A1, n1, c1, rfl, hr1⟩, ⟨A2, n2, c2, rfl, hr2⟩, hll, hb⟩
  have HB := Lib.hid hb
  have HR1 := Lib.hid hr1
  have HR2 := Lib.hid hr2
  clear hb hr1 hr2 HD
  have HC := Lib.hid (cI_SwapDiffer HR1.out HR2.out)
  go_wp2_with fail
  refine HC.out.mono ?_
  rintro e w2 ⟨rfl, hb⟩
  replace HB := Lib.hid (bl_step HB.out hb)
  replace HR1 := Lib.hid (HR1.out.step hb)
  replace HR2 := Lib.hid (HR2.out.step hb)
  clear hb HC
  have HC := Lib.hid (cS_SwapDiffer HR1.out HR2.out)
  go_wp2_with fail
  refine HC.out.mono ?_
  rintro e w3 ⟨rfl, hb⟩
  replace HB := Lib.hid (bl_step HB.out hb)
  replace HR1 := Lib.hid (HR1.out.step hb)
  replace HR2 := Lib.hid (HR2.out.step hb)
  clear hb HC
  by_cases hk : twoB l t = true
  rotate_left
  · have hk0 : twoB l t = false := by simpa using hk
    rw [hk0]
    clear hk hk0
    generalize sdR l t = d at *
    go_wp2
    go_ret
    exact ⟨rfl, HB.out⟩
  have htw := two_told hk
  obtain ⟨⟨d0, d343⟩, e1, e2, e3⟩ := differ_told htw
  have hrt := htw.2.1
  have E1 := Lib.hid e1
  have E2 := Lib.hid e2
  have E4 : Hid (ringB t = true ∧ backR t = backL t) := ⟨ring_yes hrt, by rw [backR, if_pos hrt]⟩
  have E3 : Hid (∀ g, g = same l t → (sdR l t == 0) = g) := fun g hg => by
    rw [hg, Bool.eq_iff_iff, beq_iff_eq, e3]
    simp [same]
  have hln := HR1.out.len
  have h3 := htw.1.1.1
  have h7 := HR1.out.2.2.2
  rw [hk]
  rw [hln] at h3 E2
  clear hk htw e1 e2 e3 hrt hln hll
  generalize sdR l t = d at *
  have HC := Lib.hid (cI_SwapDiffer HR2.out HR1.out)
  rw [E1.out.1, E1.out.2] at HC
  go_wp2_with fail
  refine HC.out.mono ?_
  rintro e w4 ⟨rfl, hb⟩
  replace HB := Lib.hid (bl_step HB.out hb)
  replace HR1 := Lib.hid (HR1.out.step hb)
  replace HR2 := Lib.hid (HR2.out.step hb)
  clear hb HC
  have HC := Lib.hid (cM_RingBack HR2.out)
  rw [E4.out.1, E4.out.2] at HC
  go_wp2_with fail
  refine HC.out.mono ?_
  rintro e w5 ⟨v, rfl, ⟨A5, n5, c5, rfl, hr⟩, hb⟩
  replace HB := Lib.hid (bl_step HB.out hb)
  replace HR1 := Lib.hid (HR1.out.step hb)
  replace HR2 := Lib.hid (HR2.out.step hb)
  have HR5 := Lib.hid hr
  clear hr
  clear hb HC
  have HC := Lib.hid (cI_SwapDiffer HR1.out HR5.out)
  rw [E2.out.1, E2.out.2] at HC
  go_wp2_with fail
  refine HC.out.mono ?_
  rintro e w6 ⟨rfl, hb⟩
  replace HB := Lib.hid (bl_step HB.out hb)
  replace HR1 := Lib.hid (HR1.out.step hb)
  replace HR2 := Lib.hid (HR2.out.step hb)
  clear HR5
  clear hb HC
  have HSS := Lib.hid (sameI_any HR1.out HR2.out)
  have hg := E3.out _ rfl
  generalize same l t = g at *
  clear E1 E2 E3 E4 HR1 HR2
  obtain rfl | rfl | rfl | rfl | rfl : n1 = 3 ∨ n1 = 4 ∨ n1 = 5 ∨ n1 = 6 ∨ n1 = 7 := by omega
  · rw [cntT_val.1]
    have hq : IntKind.i64.wrap (d + (1 - d)) = 1 := by rw [IntWalk.i64_in _ (by omega)]; omega
    subst hg
    go_wp2_with (go_at_call 21; refine HSS.out.mono ?_; rintro e wz ⟨rfl, hb⟩; replace HB := Lib.hid (bl_step HB.out hb); clear hb)
    go_ret
    exact ⟨rfl, HB.out⟩
  · rw [cntT_val.2.1]
    have hq : IntKind.i64.wrap (d + (4 - d)) = 4 := by rw [IntWalk.i64_in _ (by omega)]; omega
    subst hg
    go_wp2_with (go_at_call 21; refine HSS.out.mono ?_; rintro e wz ⟨rfl, hb⟩; replace HB := Lib.hid (bl_step HB.out hb); clear hb)
    go_ret
    exact ⟨rfl, HB.out⟩
  · rw [cntT_val.2.2.1]
    have hq : IntKind.i64.wrap (d + (10 - d)) = 10 := by rw [IntWalk.i64_in _ (by omega)]; omega
    subst hg
    go_wp2_with (go_at_call 21; refine HSS.out.mono ?_; rintro e wz ⟨rfl, hb⟩; replace HB := Lib.hid (bl_step HB.out hb); clear hb)
    go_ret
    exact ⟨rfl, HB.out⟩
  · rw [cntT_val.2.2.2.1]
    have hq : IntKind.i64.wrap (d + (20 - d)) = 20 := by rw [IntWalk.i64_in _ (by omega)]; omega
    subst hg
    go_wp2_with (go_at_call 21; refine HSS.out.mono ?_; rintro e wz ⟨rfl, hb⟩; replace HB := Lib.hid (bl_step HB.out hb); clear hb)
    go_ret
    exact ⟨rfl, HB.out⟩
  · rw [cntT_val.2.2.2.2]
    have hq : IntKind.i64.wrap (d + (35 - d)) = 35 := by rw [IntWalk.i64_in _ (by omega)]; omega
    subst hg
    go_wp2_with (go_at_call 21; refine HSS.out.mono ?_; rintro e wz ⟨rfl, hb⟩; replace HB := Lib.hid (bl_step HB.out hb); clear hb)
    go_ret
    exact ⟨rfl, HB.out⟩
end Go.Proofs.Ytamnacgclhaggab
