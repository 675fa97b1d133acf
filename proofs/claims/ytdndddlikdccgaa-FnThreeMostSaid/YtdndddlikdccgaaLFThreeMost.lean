/- Most threes are at least a half: the law FnThreeMost. -/
import Derived.Test.YtdndddlikdccgaaDraw31
import Derived.Test.YtdndddlikdccgaaLawG
import Derived.Test.YtdndddlikdccgaaTgM
namespace Go.Proofs.Ytdndddlikdccgaa
open Go.ChangeShapes Go.WideShapes Go.ChangeAt Go.RowKit

set_option maxRecDepth 10000 in
set_option maxHeartbeats 4000000 in
theorem law_ThreeMost (a0 : Option Addr) (len0 cap0 : Nat) (z0 : List Int) (w : World) (w0 : IsRow .u8 w a0 len0 cap0 z0) :
    Calls Try.prog 9 #[.slice a0 len0 cap0] w fun e w' => e = .returned (.bool true) ∧ Below w.heap.size w w' := by
  obtain ⟨h, hlc, hcm⟩ := byt_of_row w0
  have HD := Lib.hid (drawTThreeMost_any len0 cap0 w.heap.size a0 w h (Nat.le_refl _) hlc hcm)
  clear w0 h
  by_cases hn : len0 ≤ 1048576
  rotate_left
  · go_enter Try.func9, Try.ntmps9
    go_wp2_with fail
    go_ret
    exact ⟨rfl, Below.refl _ _⟩
  go_enter Try.func9, Try.ntmps9
  go_wp2_with fail
  refine HD.out.mono ?_
  rintro e w1 ⟨m, A1, n1, c1, L, rfl, hr1, ⟨hnc1, hcm1, hn8, hm3, hm10⟩, hb⟩
  have HB := Lib.hid hb
  have HR1 := Lib.hid hr1
  clear hb hr1 HD
  have HC := Lib.hid (cI_ThreeMost HR1.out (m : Int))
  go_wp2_with fail
  refine HC.out.mono ?_
  rintro e w2 ⟨rfl, hb⟩
  replace HB := Lib.hid (bl_step HB.out hb)
  replace HR1 := Lib.hid (HR1.out.step hb)
  clear hb HC
  have HC := Lib.hid (cS_ThreeMost HR1.out (m : Int))
  go_wp2_with fail
  refine HC.out.mono ?_
  rintro e w3 ⟨rfl, hb⟩
  replace HB := Lib.hid (bl_step HB.out hb)
  replace HR1 := Lib.hid (HR1.out.step hb)
  clear hb HC
  by_cases hk : Tel (m : Int) L
  rotate_left
  · rw [(tel_no hk).1]
    clear hk
    go_wp2
    go_ret
    exact ⟨rfl, HB.out⟩
  have hbd := most_bd (by have := hk.1; omega) (by have := hk.2.1; omega) hk.2.2.2
  have e1 : mvR (m : Int) L = mostV m L := by rw [mvR, if_pos hk, Int.toNat_natCast]
  have e2 : rgR (m : Int) L = ((agreeL m L).length : Nat) := by rw [rgR, if_pos hk, Int.toNat_natCast]
  have hln := HR1.out.len
  rw [← e1, hln] at hbd
  obtain ⟨x, hx⟩ : ∃ x, x = rgR (m : Int) L := ⟨_, rfl⟩
  rw [← hx] at e2
  have hx0 : 0 ≤ x := by omega
  obtain ⟨y, hy⟩ : ∃ y, y = mvR (m : Int) L := ⟨_, rfl⟩
  have h7 := (tel_yes hk).1
  rw [← hy] at hbd
  have hl40 := hk.2.2.1
  rw [hln] at hl40
  have B1 : decide ((n1 : Int) ≤ 2 * y) = true := by simpa using hbd.1
  have B2 : decide (y ≤ (n1 : Int)) = true := by simpa using hbd.2.1
  have B3 : (y == (n1 : Int)) = decide (0 < x) := by
    rw [Bool.eq_iff_iff, beq_iff_eq, decide_eq_true_eq, hbd.2.2]
    omega
  have E1 := Lib.hid hx
  have E2 := Lib.hid h7
  have b1 := hbd.1
  have b2 := hbd.2.1
  have HB3 := Lib.hid (⟨B1, B2, B3⟩ : _ ∧ _ ∧ _)
  rw [h7, ← hy]
  clear hk e1 e2 hx hy h7 hbd B1 B2 B3
  have HC := Lib.hid (cI_ThreeRings HR1.out (m : Int))
  rw [E2.out, ← E1.out] at HC
  go_wp2_with fail
  refine HC.out.mono ?_
  rintro e w4 ⟨rfl, hb⟩
  replace HB := Lib.hid (bl_step HB.out hb)
  clear HR1
  clear hb HC
  clear E1 E2
  obtain ⟨B1, B2, B3⟩ := HB3.out
  clear HB3
  go_wp2
  go_ret
  exact ⟨rfl, HB.out⟩
end Go.Proofs.Ytdndddlikdccgaa
