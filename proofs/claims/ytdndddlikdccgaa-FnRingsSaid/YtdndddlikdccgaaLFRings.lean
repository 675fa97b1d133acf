/- Rings that agree are as many the other way: the law FnRings. -/
import Derived.Test.YtdndddlikdccgaaDraw31
import Derived.Test.YtdndddlikdccgaaLawG
import Derived.Test.YtdndddlikdccgaaTgM
namespace Go.Proofs.Ytdndddlikdccgaa
open Go.ChangeShapes Go.WideShapes Go.ChangeAt Go.RowKit

set_option maxRecDepth 10000 in
set_option maxHeartbeats 4000000 in
theorem law_Rings (a0 : Option Addr) (len0 cap0 : Nat) (z0 : List Int) (w : World) (w0 : IsRow .u8 w a0 len0 cap0 z0) :
    Calls Try.prog 6 #[.slice a0 len0 cap0] w fun e w' => e = .returned (.bool true) ∧ Below w.heap.size w w' := by
  obtain ⟨h, hlc, hcm⟩ := byt_of_row w0
  have HD := Lib.hid (drawTRings_any len0 cap0 w.heap.size a0 w h (Nat.le_refl _) hlc hcm)
  clear w0 h
  by_cases hn : len0 ≤ 1048576
  rotate_left
  · go_enter Try.func6, Try.ntmps6
    go_wp2_with fail
    go_ret
    exact ⟨rfl, Below.refl _ _⟩
  go_enter Try.func6, Try.ntmps6
  go_wp2_with fail
  refine HD.out.mono ?_
  rintro e w1 ⟨m, A1, n1, c1, L, rfl, hr1, ⟨hnc1, hcm1, hn8, hm3, hm10⟩, hb⟩
  have HB := Lib.hid hb
  have HR1 := Lib.hid hr1
  clear hb hr1 HD
  have HC := Lib.hid (cI_ThreeRings HR1.out (m : Int))
  go_wp2_with fail
  refine HC.out.mono ?_
  rintro e w2 ⟨rfl, hb⟩
  replace HB := Lib.hid (bl_step HB.out hb)
  replace HR1 := Lib.hid (HR1.out.step hb)
  clear hb HC
  have HC := Lib.hid (cS_ThreeRings HR1.out (m : Int))
  go_wp2_with fail
  refine HC.out.mono ?_
  rintro e w3 ⟨rfl, hb⟩
  replace HB := Lib.hid (bl_step HB.out hb)
  replace HR1 := Lib.hid (HR1.out.step hb)
  clear hb HC
  by_cases hk : Tel (m : Int) L
  rotate_left
  · rw [(tel_no hk).1]
    clear hk
    go_wp2
    go_ret
    exact ⟨rfl, HB.out⟩
  have E0 := Lib.hid (tel_yes hk).1
  have E1 : Hid (backT (m : Int) L = back3 L) := by rw [Hid, backT, if_pos hk]
  have E2 := Lib.hid (tel_yes (tel_back hk)).1
  have E3 : Hid (rgR (m : Int) (back3 L) = rgR (m : Int) L) := by
    rw [Hid, rgR, rgR, if_pos (tel_back hk), if_pos hk, Int.toNat_natCast, agree_back (by have := hk.1; omega) (by have := hk.2.1; omega) hk.2.2.2]
  have E4 : Hid (fsB (m : Int) L = decide (0 < rgR (m : Int) L)) := by
    rw [Hid, fsB, rgR, if_pos hk, if_pos hk]
    congr 1
    simp
  rw [E0.out]
  clear hk
  obtain ⟨x, hx⟩ : ∃ x, x = rgR (m : Int) L := ⟨_, rfl⟩
  rw [← hx] at E3 E4 ⊢
  clear hx
  have HC := Lib.hid (cI_ThreeBack HR1.out (m : Int))
  rw [E0.out, E1.out] at HC
  go_wp2_with fail
  refine HC.out.mono ?_
  rintro e w4 ⟨v, rfl, ⟨A2, n2, c2, rfl, hr⟩, hb⟩
  replace HB := Lib.hid (bl_step HB.out hb)
  replace HR1 := Lib.hid (HR1.out.step hb)
  have HR2 := Lib.hid hr
  clear hr
  clear hb HC
  have HC := Lib.hid (cI_ThreeRings HR2.out (m : Int))
  rw [E2.out, E3.out] at HC
  go_wp2_with fail
  refine HC.out.mono ?_
  rintro e w5 ⟨rfl, hb⟩
  replace HB := Lib.hid (bl_step HB.out hb)
  replace HR1 := Lib.hid (HR1.out.step hb)
  clear HR2
  clear hb HC
  have HC := Lib.hid (cI_ThreeFirst HR1.out (m : Int))
  rw [E4.out] at HC
  go_wp2_with fail
  refine HC.out.mono ?_
  rintro e w6 ⟨v, rfl, ⟨A4, n4, c4, rfl, hr⟩, hb⟩
  replace HB := Lib.hid (bl_step HB.out hb)
  clear HR1
  have HR4 := Lib.hid hr
  clear hr
  clear hb HC
  clear E0 E1 E2 E3 E4 HR4
  go_wp2
  go_ret
  exact ⟨rfl, HB.out⟩
end Go.Proofs.Ytdndddlikdccgaa
