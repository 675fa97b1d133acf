/- Tellings without a three are tellings: the law FnTelling. -/
import Derived.Test.YtdndddlikdccgaaDraw31
import Derived.Test.YtdndddlikdccgaaLawG
import Derived.Test.YtdndddlikdccgaaTgM
import Derived.Test.YtdndddlikdccgaaRwT
namespace Go.Proofs.Ytdndddlikdccgaa
open Go.ChangeShapes Go.WideShapes Go.ChangeAt Go.RowKit

set_option maxRecDepth 10000 in
set_option maxHeartbeats 4000000 in
theorem law_Telling (a0 : Option Addr) (len0 cap0 : Nat) (z0 : List Int) (w : World) (w0 : IsRow .u8 w a0 len0 cap0 z0) :
    Calls Try.prog 3 #[.slice a0 len0 cap0] w fun e w' => e = .returned (.bool true) ∧ Below w.heap.size w w' := by
  obtain ⟨h, hlc, hcm⟩ := byt_of_row w0
  have HD := Lib.hid (drawTTelling_any len0 cap0 w.heap.size a0 w h (Nat.le_refl _) hlc hcm)
  clear w0 h
  by_cases hn : len0 ≤ 1048576
  rotate_left
  · go_enter Try.func3, Try.ntmps3
    go_wp2_with fail
    go_ret
    exact ⟨rfl, Below.refl _ _⟩
  go_enter Try.func3, Try.ntmps3
  go_wp2_with fail
  refine HD.out.mono ?_
  rintro e w1 ⟨m, A1, n1, c1, L, rfl, hr1, ⟨hnc1, hcm1, hn8, hm3, hm10⟩, hb⟩
  have HB := Lib.hid hb
  have HR1 := Lib.hid hr1
  clear hb hr1 HD
  have HC := Lib.hid (cI_ThreeTelling HR1.out (m : Int))
  go_wp2_with fail
  refine HC.out.mono ?_
  rintro e w2 ⟨rfl, hb⟩
  replace HB := Lib.hid (bl_step HB.out hb)
  replace HR1 := Lib.hid (HR1.out.step hb)
  clear hb HC
  have HC := Lib.hid (cS_ThreeTelling HR1.out (m : Int))
  go_wp2_with fail
  refine HC.out.mono ?_
  rintro e w3 ⟨rfl, hb⟩
  replace HB := Lib.hid (bl_step HB.out hb)
  replace HR1 := Lib.hid (HR1.out.step hb)
  clear hb HC
  by_cases hk : Tel (m : Int) L
  rotate_left
  · rw [(tel_no hk).1]
    clear hk
    go_wp2
    go_ret
    exact ⟨rfl, HB.out⟩
  have E0 := Lib.hid (tel_yes hk).1
  have E1 : Hid (backT (m : Int) L = back3 L) := by rw [Hid, backT, if_pos hk]
  have E2 := Lib.hid (tel_yes (tel_back hk)).1
  have E3 := Lib.hid (tel_yes (tel_tail hk)).1
  have HLN := Lib.hid HR1.out.len
  rw [E0.out]
  clear hk
  have HC := Lib.hid (cI_ThreeBack HR1.out (m : Int))
  rw [E0.out, E1.out] at HC
  go_wp2_with fail
  refine HC.out.mono ?_
  rintro e w4 ⟨v, rfl, ⟨A2, n2, c2, rfl, hr⟩, hb⟩
  replace HB := Lib.hid (bl_step HB.out hb)
  replace HR1 := Lib.hid (HR1.out.step hb)
  have HR2 := Lib.hid hr
  clear hr
  clear hb HC
  clear E0 E1
  obtain rfl | hn0 := Nat.eq_zero_or_pos n1

  · clear E3
    have HC := Lib.hid (cI_ThreeTelling HR2.out (m : Int))
    rw [E2.out] at HC
    go_wp2_with fail
    refine HC.out.mono ?_
    rintro e w5 ⟨rfl, hb⟩
    replace HB := Lib.hid (bl_step HB.out hb)
    clear HR1
    clear HR2
    clear hb HC
    clear E2
    go_wp2
    go_ret
    exact ⟨rfl, HB.out⟩
  have hne : ((n1 : Int) == 0) = false := by simp; omega
  obtain ⟨b, o, e, hbH, hcs⟩ := HR1.out.rd.at_ hn0
  subst e
  clear hcs
  have HC := Lib.hid (cI_ThreeTelling HR2.out (m : Int))
  rw [E2.out] at HC
  go_wp2_with fail
  refine HC.out.mono ?_
  rintro e w5 ⟨rfl, hb⟩
  replace HB := Lib.hid (bl_step HB.out hb)
  replace HR1 := Lib.hid (HR1.out.step hb)
  clear HR2
  clear hb HC
  clear E2
  by_cases hc11 : c1 = 1
  · subst hc11
    obtain rfl : n1 = 1 := by omega
    have hdl : L.tail = [] := by rw [← List.drop_one]; exact List.drop_eq_nil_of_le (by rw [HLN.out]; omega)
    rw [hdl] at E3
    clear HR1
    go_wp2_with fail
    have HX := cI_ThreeTelling (RwS.none0 w5 (some ⟨b, o, none⟩)) (m : Int)
    rw [E3.out] at HX
    clear E3
    refine HX.mono ?_
    rintro e w6 ⟨rfl, hb6⟩
    have HB6 := Lib.hid (bl_step HB.out hb6)
    clear hb6
    go_wp2
    go_ret
    exact ⟨rfl, HB6.out⟩
  · have HRT := Lib.hid (HR1.out.tail hn0)
    rw [List.drop_one] at HRT
    clear HR1
    go_wp2_with fail
    have HX := cI_ThreeTelling HRT.out (m : Int)
    rw [E3.out] at HX
    clear E3
    refine HX.mono ?_
    rintro e w6 ⟨rfl, hb6⟩
    have HB6 := Lib.hid (bl_step HB.out hb6)
    clear hb6
    go_wp2
    go_ret
    exact ⟨rfl, HB6.out⟩
end Go.Proofs.Ytdndddlikdccgaa
