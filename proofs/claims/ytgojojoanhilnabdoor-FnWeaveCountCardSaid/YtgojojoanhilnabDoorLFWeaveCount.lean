/- Asking and dividing count the same: the law FnWeaveCount. -/
import Derived.Test.YtgojojoanhilnabDoorDR
import Derived.Test.YtgojojoanhilnabDoorDraw45
import Derived.Test.YtgojojoanhilnabDoorLawWP
import Derived.Test.YtgojojoanhilnabDoorWvAr
namespace Go.Proofs.YtgojojoanhilnabDoor
open Go.ChangeShapes Go.WideShapes Go.ChangeAt Go.RowKit

set_option maxRecDepth 10000 in
set_option maxHeartbeats 4000000 in
theorem law_WeaveCount (a0 : Option Addr) (len0 cap0 : Nat) (z0 : List Int) (w : World) (w0 : IsRow .u8 w a0 len0 cap0 z0) (hTAB : Tab w) :
    Calls Tryd.prog 4 #[.slice a0 len0 cap0] w fun e w' => e = .returned (.bool true) ∧ Below w.heap.size w w' := by
  obtain ⟨h, hlc, hcm⟩ := byt_of_row w0
  have HD := Lib.hid (drawWeaveCount_any len0 cap0 w.heap.size a0 w h (Nat.le_refl _) hlc hcm)
  clear w0 h
  by_cases hn : len0 ≤ 1048576
  rotate_left
  · go_enter Tryd.func4, Tryd.ntmps4
    go_wp2_with fail
    go_ret
    exact ⟨rfl, Below.refl _ _⟩
  go_enter Tryd.func4, Tryd.ntmps4
  go_wp2_with fail
  refine HD.out.mono ?_
  rintro e w1 ⟨v, v', n1, p, q, rfl, ⟨A1, m1, c1, rfl, hr1⟩, ⟨A2, m2, c2, rfl, hr2⟩, hm, hb⟩
  have HB := Lib.hid hb
  have HR1 := Lib.hid hr1
  have HR2 := Lib.hid hr2
  have HRT := Lib.hid (hTAB.step hb)
  clear hTAB
  clear hb hr1 hr2 HD
  have HC := Lib.hid (cI_WeaveCountP HR1.out HR2.out (n1 : Int) HRT.out)
  go_wp2_with fail
  refine HC.out.mono ?_
  rintro e w2 ⟨rfl, hb⟩
  replace HB := Lib.hid (bl_step HB.out hb)
  replace HR1 := Lib.hid (HR1.out.step hb)
  replace HR2 := Lib.hid (HR2.out.step hb)
  replace HRT := Lib.hid (HRT.out.step hb)
  clear hb HC
  have HC := Lib.hid (cS_WeaveCountP HR1.out HR2.out (n1 : Int))
  go_wp2_with fail
  refine HC.out.mono ?_
  rintro e w3 ⟨rfl, hb⟩
  replace HB := Lib.hid (bl_step HB.out hb)
  replace HR1 := Lib.hid (HR1.out.step hb)
  replace HR2 := Lib.hid (HR2.out.step hb)
  replace HRT := Lib.hid (HRT.out.step hb)
  clear hb HC
  by_cases hk : Wov (n1 : Int) p q
  rotate_left
  · rw [wov_no hk]
    clear hk
    go_wp2
    go_ret
    exact ⟨rfl, HB.out⟩
  rw [wov_yes hk]
  have E1 : Hid (wsmR (n1 : Int) p q = wctR (n1 : Int) p q ∧ wov (n1 : Int) p q = true) := by
    refine ⟨?_, wov_yes hk⟩
    have hc := pair_count hk
    have h1 := hk.1.len
    have h2 := hk.2.1.len
    have b1 := (facN_le (p.length - 1) (by omega)).2.1
    have b2 := (facN_le (q.length - 1) (by omega)).2.1
    rw [wsmR, if_pos hk, wctR, if_pos hk, Int.toNat_natCast, show ((n1 : Int) - 1).toNat = n1 - 1 by omega, ← hc]
    exact Int.mul_ediv_cancel _ (by have := Int.mul_pos (show 0 < facN (p.length - 1) by omega) (show 0 < facN (q.length - 1) by omega); omega)
  have E2 : Hid (wctR (n1 : Int) q p = wctR (n1 : Int) p q ∧ wov (n1 : Int) q p = true) := by
    refine ⟨?_, wov_yes (wov_swap hk)⟩
    rw [wctR, if_pos (wov_swap hk), wctR, if_pos hk, woven_swap]
  clear hk
  generalize wctR (n1 : Int) p q = x at *
  have HC := Lib.hid (cI_WeaveSumP HR1.out HR2.out (n1 : Int))
  rw [E1.out.1, E1.out.2] at HC
  go_wp2_with fail
  refine HC.out.mono ?_
  rintro e w4 ⟨rfl, hb⟩
  replace HB := Lib.hid (bl_step HB.out hb)
  replace HR1 := Lib.hid (HR1.out.step hb)
  replace HR2 := Lib.hid (HR2.out.step hb)
  replace HRT := Lib.hid (HRT.out.step hb)
  clear hb HC
  have HC := Lib.hid (cI_WeaveCountP HR2.out HR1.out (n1 : Int) HRT.out)
  rw [E2.out.1, E2.out.2] at HC
  go_wp2_with fail
  refine HC.out.mono ?_
  rintro e w5 ⟨rfl, hb⟩
  replace HB := Lib.hid (bl_step HB.out hb)
  clear HR1
  clear HR2
  clear HRT
  clear hb HC
  clear E1 E2
  go_wp2
  go_ret
  exact ⟨rfl, HB.out⟩
end Go.Proofs.YtgojojoanhilnabDoor
