/- Windings stay when points are called otherwise: the law FnWindNamed. -/
import Derived.Test.YtbfdbnminjhocaaDraw11
import Derived.Test.YtbfdbnminjhocaaDraw12
import Derived.Test.YtbfdbnminjhocaaWindO
import Derived.Test.YtbfdbnminjhocaaSameI
namespace Go.Proofs.Ytbfdbnminjhocaa
open Go.ChangeShapes Go.WideShapes Go.ChangeAt Go.RowKit

set_option maxRecDepth 10000 in
set_option maxHeartbeats 4000000 in
theorem law_WindNamed (a0 : Option Addr) (len0 cap0 : Nat) (z0 : List Int) (w : World) (w0 : IsRow .u8 w a0 len0 cap0 z0) :
    Calls Try.prog 10 #[.slice a0 len0 cap0] w fun e w' => e = .returned (.bool true) ∧ Below w.heap.size w w' := by
  obtain ⟨h, hlc, hcm⟩ := byt_of_row w0
  have HD := Lib.hid (drawRingNamed_any len0 cap0 w.heap.size a0 w h (Nat.le_refl _) hlc hcm)
  clear w0 h
  by_cases hn : len0 ≤ 1048576
  rotate_left
  · go_enter Try.func10, Try.ntmps10
    go_wp2_with fail
    go_ret
    exact ⟨rfl, Below.refl _ _⟩
  go_enter Try.func10, Try.ntmps10
  go_wp2_with fail
  refine HD.out.mono ?_
  rintro e w1 ⟨v, v', l, p, rfl, ⟨A1, n1, c1, rfl, hr1⟩, ⟨A9, n9, c9, rfl, hr9⟩, hb⟩
  have HB := Lib.hid hb
  have HR1 := Lib.hid hr1
  have HR9 := Lib.hid hr9
  clear hb hr1 hr9 HD
  have HC := Lib.hid (cI_RingNamed HR1.out HR9.out)
  go_wp2_with fail
  refine HC.out.mono ?_
  rintro e w2 ⟨v, rfl, ⟨A2, n2, c2, rfl, hr⟩, hb⟩
  replace HB := Lib.hid (bl_step HB.out hb)
  replace HR1 := Lib.hid (HR1.out.step hb)
  replace HR9 := Lib.hid (HR9.out.step hb)
  have HR2 := Lib.hid hr
  clear hr
  clear hb HC
  have HC := Lib.hid (cS_RingNamed HR1.out HR9.out)
  go_wp2_with fail
  refine HC.out.mono ?_
  rintro e w3 ⟨v, rfl, ⟨A3, n3, c3, rfl, hr⟩, hb⟩
  replace HB := Lib.hid (bl_step HB.out hb)
  replace HR1 := Lib.hid (HR1.out.step hb)
  replace HR9 := Lib.hid (HR9.out.step hb)
  replace HR2 := Lib.hid (HR2.out.step hb)
  have HR3 := Lib.hid hr
  clear hr
  clear hb HC
  have HS := Lib.hid (fun (W : World) (hb : Below w3.heap.size w3 W) => sameI_any (HR2.out.step hb) (HR3.out.step hb))
  rw [same_self] at HS
  by_cases hk : namedB l p = true
  rotate_left
  · rw [(namedB_no hk)]
    clear hk HR1 HR9 HR2 HR3
    have HZ := Lib.hid (Below.refl w3.heap.size w3)
    go_wp2_with (first | (go_at_call 25; refine (HS.out _ (by first | exact HZ.out | exact HZ.out.drew)).mono ?_; rintro e wz ⟨rfl, hb⟩; replace HZ := Lib.hid (bl_step HZ.out hb); clear hb))
    go_ret
    exact ⟨rfl, bl_step HB.out HZ.out⟩
  rw [hk]
  have ER : namedR l p = cutL (callL l p) 0 := by rw [namedR, if_pos hk]
  rw [ER] at HR2
  obtain ⟨hr, ht, hpl⟩ := namedB_yes hk
  have hln := HR1.out.len
  have h3 : 3 ≤ n1 := by have := hr.1.1; omega
  have h7 := HR1.out.2.2.2
  have hu := up_ring h3 h7
  have hb2 : namedB (upFrom 0 n1) p = true := by rw [namedB, ring_yes hu, tell_yes ht]; simp; omega
  have E2 := Lib.hid (by_zero h3 h7)
  have E3 : Hid (namedB (upFrom 0 n1) p = true ∧ namedR (upFrom 0 n1) p = cutL (callL (upFrom 0 n1) p) 0) := ⟨hb2, by rw [namedR, if_pos hb2]⟩
  have t1 : TwoR l (upFrom 0 n1) := ⟨hr, hu, by simpa using hln⟩
  have t2 : TwoR (cutL (callL l p) 0) (cutL (callL (upFrom 0 n1) p) 0) := ⟨cutL_ring (callL_tell hr.1 ht hpl), cutL_ring (callL_tell hu.1 ht (by simp; omega)), by rw [cutL_len, callL_len, cutL_len, callL_len]; simpa using hln⟩
  have E4 : Hid (twoB l (upFrom 0 n1) = true ∧ woR l (upFrom 0 n1) = windL l (upFrom 0 n1)) := ⟨twoYes t1, by rw [woR, if_pos t1]⟩
  have E5 : Hid (twoB (cutL (callL l p) 0) (cutL (callL (upFrom 0 n1) p) 0) = true ∧ woR (cutL (callL l p) 0) (cutL (callL (upFrom 0 n1) p) 0) = windL l (upFrom 0 n1)) := ⟨twoYes t2, by rw [woR, if_pos t2, wind_named hr.1 hu.1 ht (by simpa using hln) (by simp; omega)]⟩
  clear hk ER hr ht hpl hln hu hb2 t1 t2
  generalize windL l (upFrom 0 n1) = d at *
  have HZ := Lib.hid (Below.refl w3.heap.size w3)
  go_wp2_with (first | (go_at_call 25; refine (HS.out _ (by first | exact HZ.out | exact HZ.out.drew)).mono ?_; rintro e wz ⟨rfl, hb⟩; replace HZ := Lib.hid (bl_step HZ.out hb); clear hb))
  replace HB := Lib.hid (bl_step HB.out HZ.out)
  replace HR1 := Lib.hid (HR1.out.step HZ.out)
  replace HR9 := Lib.hid (HR9.out.step HZ.out)
  replace HR2 := Lib.hid (HR2.out.step HZ.out)
  clear HR3
  clear HZ HS
  have HC := Lib.hid (cI_RingBy (n1 : Int) 0 wz)
  rw [E2.out.1, E2.out.2] at HC
  go_wp2_with fail
  refine HC.out.mono ?_
  rintro e w4 ⟨v, rfl, ⟨A4, n4, c4, rfl, hr⟩, hb⟩
  replace HB := Lib.hid (bl_step HB.out hb)
  replace HR1 := Lib.hid (HR1.out.step hb)
  replace HR9 := Lib.hid (HR9.out.step hb)
  replace HR2 := Lib.hid (HR2.out.step hb)
  have HR4 := Lib.hid hr
  clear hr
  clear hb HC
  have HC := Lib.hid (cI_RingNamed HR4.out HR9.out)
  rw [E3.out.1, E3.out.2] at HC
  go_wp2_with fail
  refine HC.out.mono ?_
  rintro e w5 ⟨v, rfl, ⟨A5, n5, c5, rfl, hr⟩, hb⟩
  replace HB := Lib.hid (bl_step HB.out hb)
  replace HR1 := Lib.hid (HR1.out.step hb)
  replace HR9 := Lib.hid (HR9.out.step hb)
  replace HR2 := Lib.hid (HR2.out.step hb)
  replace HR4 := Lib.hid (HR4.out.step hb)
  have HR5 := Lib.hid hr
  clear hr
  clear hb HC
  have HC := Lib.hid (cI_WindOf HR1.out HR4.out)
  rw [E4.out.1, E4.out.2] at HC
  go_wp2_with fail
  refine HC.out.mono ?_
  rintro e w6 ⟨rfl, hb⟩
  replace HB := Lib.hid (bl_step HB.out hb)
  clear HR1
  clear HR9
  replace HR2 := Lib.hid (HR2.out.step hb)
  clear HR4
  replace HR5 := Lib.hid (HR5.out.step hb)
  clear hb HC
  have HC := Lib.hid (cI_WindOf HR2.out HR5.out)
  rw [E5.out.1, E5.out.2] at HC
  go_wp2_with fail
  refine HC.out.mono ?_
  rintro e w7 ⟨rfl, hb⟩
  replace HB := Lib.hid (bl_step HB.out hb)
  clear HR2
  clear HR5
  clear hb HC
  clear E2 E3 E4 E5
  go_wp2
  go_ret
  exact ⟨rfl, HB.out⟩
end Go.Proofs.Ytbfdbnminjhocaa
