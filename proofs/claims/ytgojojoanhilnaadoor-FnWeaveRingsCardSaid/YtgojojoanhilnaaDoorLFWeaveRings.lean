/- Rings that have parts are there or not: the law FnWeaveRings. -/
import Derived.Test.YtgojojoanhilnaaDoorDraw48
import Derived.Test.YtgojojoanhilnaaDoorLawWP
import Derived.Test.YtgojojoanhilnaaDoorWvDr
namespace Go.Proofs.YtgojojoanhilnaaDoor
open Go.ChangeShapes Go.WideShapes Go.ChangeAt Go.RowKit

set_option maxRecDepth 10000 in
set_option maxHeartbeats 4000000 in
theorem law_WeaveRings (a0 : Option Addr) (len0 cap0 : Nat) (z0 : List Int) (w : World) (w0 : IsRow .u8 w a0 len0 cap0 z0) (hTAB : Tab w) :
    Calls Tryd.prog 5 #[.slice a0 len0 cap0] w fun e w' => e = .returned (.bool true) ∧ Below w.heap.size w w' := by
  obtain ⟨h, hlc, hcm⟩ := byt_of_row w0
  have HD := Lib.hid (drawWeaveRings_any len0 cap0 w.heap.size a0 w h (Nat.le_refl _) hlc hcm)
  clear w0 h
  by_cases hn : len0 ≤ 1048576
  rotate_left
  · go_enter Tryd.func5, Tryd.ntmps5
    go_wp2_with fail
    go_ret
    exact ⟨rfl, Below.refl _ _⟩
  go_enter Tryd.func5, Tryd.ntmps5
  go_wp2_with fail
  refine HD.out.mono ?_
  rintro e w1 ⟨m, A1, n1, c1, L, rfl, hr1, ⟨hnc1, hcm1, hn3, hm3, hm6⟩, hb⟩
  have HB := Lib.hid hb
  have HR1 := Lib.hid hr1
  have HRT := Lib.hid (hTAB.step hb)
  clear hTAB
  clear hb hr1 HD
  have HC := Lib.hid (cI_WeaveRings HR1.out (m : Int) HRT.out)
  go_wp2_with fail
  refine HC.out.mono ?_
  rintro e w2 ⟨rfl, hb⟩
  replace HB := Lib.hid (bl_step HB.out hb)
  replace HR1 := Lib.hid (HR1.out.step hb)
  replace HRT := Lib.hid (HRT.out.step hb)
  clear hb HC
  have HC := Lib.hid (cS_WeaveRings HR1.out (m : Int))
  go_wp2_with fail
  refine HC.out.mono ?_
  rintro e w3 ⟨rfl, hb⟩
  replace HB := Lib.hid (bl_step HB.out hb)
  replace HR1 := Lib.hid (HR1.out.step hb)
  replace HRT := Lib.hid (HRT.out.step hb)
  clear hb HC
  by_cases hk : Lst (m : Int) L
  rotate_left
  · rw [(lst_no hk).1]
    clear hk
    go_wp2
    go_ret
    exact ⟨rfl, HB.out⟩
  obtain ⟨g0, g1, g2, g3, g4⟩ := wr_told hk
  rw [HR1.out.len] at g2
  have E0 := Lib.hid (lst_yes hk).1
  have E3 := Lib.hid g3
  rw [E0.out]
  clear hk g3
  generalize wrR (m : Int) L = x at *
  obtain ⟨y, hy⟩ : ∃ y, y = rcount (m : Int) := ⟨_, rfl⟩
  rw [← hy] at g1 g2
  have EY := Lib.hid hy
  have hd37 : (decide ((3 : Int) ≤ (m : Int)) && decide ((m : Int) ≤ 7)) = true := by simp; omega
  have D37 := Lib.hid hd37
  clear hy hd37
  have HC := Lib.hid (cI_WeaveFirst HR1.out (m : Int) HRT.out)
  rw [E3.out] at HC
  go_wp2_with fail
  refine HC.out.mono ?_
  rintro e w4 ⟨v, rfl, ⟨A4, n4, c4, rfl, hr⟩, hb⟩
  replace HB := Lib.hid (bl_step HB.out hb)
  clear HR1
  clear HRT
  have HR4 := Lib.hid hr
  clear hr
  clear hb HC
  have HC := Lib.hid (cW_RingCount (m : Int) w4)
  rw [← EY.out, D37.out] at HC
  go_wp2_with fail
  refine HC.out.mono ?_
  rintro e w5 ⟨rfl, hb⟩
  replace HB := Lib.hid (bl_step HB.out hb)
  clear HR4
  clear hb HC
  have hle : decide (x ≤ y) = true := by simpa using g1
  clear E0 E3 EY D37
  by_cases h0 : n1 = 0
  · have hxy := g2 h0
    subst h0
    subst hxy
    go_wp2
    go_ret
    exact ⟨rfl, HB.out⟩
  · have h1 : decide ((0 : Int) < (n1 : Int)) = true := by simp; omega
    have h2 : 0 < n1 := by omega
    clear g2 h0
    go_wp2
    go_ret
    exact ⟨rfl, HB.out⟩
end Go.Proofs.YtgojojoanhilnaaDoor
