/- A swap taken back: the law FnSwapAt. -/
import Derived.Test.YtamnacgclhaggabDraw42
import Derived.Test.YtamnacgclhaggabLawE
namespace Go.Proofs.Ytamnacgclhaggab
open Go.ChangeShapes Go.WideShapes Go.ChangeAt Go.RowKit

set_option maxRecDepth 10000 in
set_option maxHeartbeats 4000000 in
theorem law_SwapAt (a0 : Option Addr) (len0 cap0 : Nat) (z0 : List Int) (w : World) (w0 : IsRow .u8 w a0 len0 cap0 z0) :
    Calls Try.prog 7 #[.slice a0 len0 cap0] w fun e w' => e = .returned (.bool true) ∧ Below w.heap.size w w' := by
  obtain ⟨h, hlc, hcm⟩ := byt_of_row w0
  have HD := Lib.hid (drawSwapAt_any len0 cap0 w.heap.size a0 w h (Nat.le_refl _) hlc hcm)
  clear w0 h
  by_cases hn : len0 ≤ 1048576
  rotate_left
  · go_enter Try.func7, Try.ntmps7
    go_wp2_with fail
    go_ret
    exact ⟨rfl, Below.refl _ _⟩
  go_enter Try.func7, Try.ntmps7
  go_wp2_with fail
  refine HD.out.mono ?_
  rintro e w1 ⟨v, l, x, rfl, ⟨A1, n1, c1, rfl, hr1⟩, hll, hb⟩
  have HB := Lib.hid hb
  have HR1 := Lib.hid hr1
  clear hb hr1 HD
  have HC := Lib.hid (cI_SwapAt HR1.out x)
  go_wp2_with fail
  refine HC.out.mono ?_
  rintro e w2 ⟨v, rfl, ⟨A2, n2, c2, rfl, hr⟩, hb⟩
  replace HB := Lib.hid (bl_step HB.out hb)
  replace HR1 := Lib.hid (HR1.out.step hb)
  have HR2 := Lib.hid hr
  clear hr
  clear hb HC
  have HC := Lib.hid (cS_SwapAt HR1.out x)
  go_wp2_with fail
  refine HC.out.mono ?_
  rintro e w3 ⟨v, rfl, ⟨A3, n3, c3, rfl, hr⟩, hb⟩
  replace HB := Lib.hid (bl_step HB.out hb)
  replace HR1 := Lib.hid (HR1.out.step hb)
  replace HR2 := Lib.hid (HR2.out.step hb)
  have HR3 := Lib.hid hr
  clear hr
  clear hb HC
  have HS := Lib.hid (fun (W : World) (hb : Below w3.heap.size w3 W) => sameI_any (HR2.out.step hb) (HR3.out.step hb))
  rw [same_self] at HS
  by_cases hk : hasB l x = true
  rotate_left
  · rw [show hasB l x = false by simpa using hk]
    clear hk HR1 HR2 HR3
    have HZ := Lib.hid (Below.refl w3.heap.size w3)
    go_wp2_with (first | (go_at_call 21; refine (HS.out _ (by first | exact HZ.out | exact HZ.out.drew)).mono ?_; rintro e wz ⟨rfl, hb⟩; replace HZ := Lib.hid (bl_step HZ.out hb); clear hb))
    go_ret
    exact ⟨rfl, bl_step HB.out HZ.out⟩
  rw [hk]
  obtain ⟨e0, e1, e2⟩ := swap_told hk
  rw [e0] at HR2 HR3
  have E1 := Lib.hid e1
  have hln := HR1.out.len
  have h7 := HR1.out.2.2.2
  have h3 := (hasB_yes hk).1.1.1
  rw [hln] at h3 e2
  obtain ⟨d0, hd0⟩ : ∃ d0, d0 = (n1 : Int) - 2 := ⟨_, rfl⟩
  rw [← hd0] at e2
  have E2 := Lib.hid e2
  have EK := Lib.hid hk
  clear hk e0 e1 e2 hln hll
  generalize swapL l x = o at *
  generalize nxt l x = y at *
  have HZ := Lib.hid (Below.refl w3.heap.size w3)
  go_wp2_with (first | (go_at_call 21; refine (HS.out _ (by first | exact HZ.out | exact HZ.out.drew)).mono ?_; rintro e wz ⟨rfl, hb⟩; replace HZ := Lib.hid (bl_step HZ.out hb); clear hb))
  replace HB := Lib.hid (bl_step HB.out HZ.out)
  replace HR1 := Lib.hid (HR1.out.step HZ.out)
  replace HR2 := Lib.hid (HR2.out.step HZ.out)
  clear HR3
  clear HZ HS
  have HC := Lib.hid (cX_RingNext HR1.out x)
  rw [EK.out, E1.out.1] at HC
  go_wp2_with fail
  refine HC.out.mono ?_
  rintro e w4 ⟨rfl, hb⟩
  replace HB := Lib.hid (bl_step HB.out hb)
  replace HR1 := Lib.hid (HR1.out.step hb)
  replace HR2 := Lib.hid (HR2.out.step hb)
  clear hb HC
  have HC := Lib.hid (cI_SwapAt HR2.out y)
  rw [E1.out.2.1, E1.out.2.2] at HC
  go_wp2_with fail
  refine HC.out.mono ?_
  rintro e w5 ⟨v, rfl, ⟨A4, n4, c4, rfl, hr⟩, hb⟩
  replace HB := Lib.hid (bl_step HB.out hb)
  replace HR1 := Lib.hid (HR1.out.step hb)
  replace HR2 := Lib.hid (HR2.out.step hb)
  have HR4 := Lib.hid hr
  clear hr
  clear hb HC
  have HC := Lib.hid (cI_SwapDiffer HR1.out HR2.out)
  rw [E2.out.1, E2.out.2] at HC
  go_wp2_with fail
  refine HC.out.mono ?_
  rintro e w6 ⟨rfl, hb⟩
  replace HB := Lib.hid (bl_step HB.out hb)
  replace HR1 := Lib.hid (HR1.out.step hb)
  clear HR2
  replace HR4 := Lib.hid (HR4.out.step hb)
  clear hb HC
  have HSS := Lib.hid (sameI_any HR4.out HR1.out)
  rw [same_self] at HSS
  clear E1 E2 EK HR1 HR4
  obtain rfl | rfl | rfl | rfl | rfl : n1 = 3 ∨ n1 = 4 ∨ n1 = 5 ∨ n1 = 6 ∨ n1 = 7 := by omega
  · obtain rfl : d0 = 1 := by omega
    clear hd0 h3 h7
    go_wp2_with (go_at_call 21; refine HSS.out.mono ?_; rintro e wz ⟨rfl, hb⟩; replace HB := Lib.hid (bl_step HB.out hb); clear hb)
    go_ret
    exact ⟨rfl, HB.out⟩
  · obtain rfl : d0 = 2 := by omega
    clear hd0 h3 h7
    go_wp2_with (go_at_call 21; refine HSS.out.mono ?_; rintro e wz ⟨rfl, hb⟩; replace HB := Lib.hid (bl_step HB.out hb); clear hb)
    go_ret
    exact ⟨rfl, HB.out⟩
  · obtain rfl : d0 = 3 := by omega
    clear hd0 h3 h7
    go_wp2_with (go_at_call 21; refine HSS.out.mono ?_; rintro e wz ⟨rfl, hb⟩; replace HB := Lib.hid (bl_step HB.out hb); clear hb)
    go_ret
    exact ⟨rfl, HB.out⟩
  · obtain rfl : d0 = 4 := by omega
    clear hd0 h3 h7
    go_wp2_with (go_at_call 21; refine HSS.out.mono ?_; rintro e wz ⟨rfl, hb⟩; replace HB := Lib.hid (bl_step HB.out hb); clear hb)
    go_ret
    exact ⟨rfl, HB.out⟩
  · obtain rfl : d0 = 5 := by omega
    clear hd0 h3 h7
    go_wp2_with (go_at_call 21; refine HSS.out.mono ?_; rintro e wz ⟨rfl, hb⟩; replace HB := Lib.hid (bl_step HB.out hb); clear hb)
    go_ret
    exact ⟨rfl, HB.out⟩
end Go.Proofs.Ytamnacgclhaggab
