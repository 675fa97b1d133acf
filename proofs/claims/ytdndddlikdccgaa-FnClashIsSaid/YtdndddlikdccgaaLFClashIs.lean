/- No proof shows a clash where rings agree: the law FnClashIs. -/
import Derived.Test.YtdndddlikdccgaaDraw33
import Derived.Test.YtdndddlikdccgaaLawPI
import Derived.Test.YtdndddlikdccgaaTgR
namespace Go.Proofs.Ytdndddlikdccgaa
open Go.ChangeShapes Go.WideShapes Go.ChangeAt Go.RowKit

set_option maxRecDepth 10000 in
set_option maxHeartbeats 4000000 in
theorem law_ClashIs (a0 : Option Addr) (len0 cap0 : Nat) (z0 : List Int) (w : World) (w0 : IsRow .u8 w a0 len0 cap0 z0) :
    Calls Try.prog 12 #[.slice a0 len0 cap0] w fun e w' => e = .returned (.bool true) ∧ Below w.heap.size w w' := by
  obtain ⟨h, hlc, hcm⟩ := byt_of_row w0
  have HD := Lib.hid (drawClashIs_any len0 cap0 w.heap.size a0 w h (Nat.le_refl _) hlc hcm)
  clear w0 h
  by_cases hn : len0 ≤ 1048576
  rotate_left
  · go_enter Try.func12, Try.ntmps12
    go_wp2_with fail
    go_ret
    exact ⟨rfl, Below.refl _ _⟩
  go_enter Try.func12, Try.ntmps12
  go_wp2_with fail
  refine HD.out.mono ?_
  rintro e w1 ⟨m, A1, n1, c1, L, s, rfl, hsz, hr1, hb⟩
  have HB := Lib.hid hb
  have HR1 := Lib.hid hr1
  clear hb hr1 HD
  have HC := Lib.hid (cI_ProofClashIs HR1.out (m : Int) s (by omega))
  go_wp2_with fail
  refine HC.out.mono ?_
  rintro e w2 ⟨rfl, hb⟩
  replace HB := Lib.hid (bl_step HB.out hb)
  replace HR1 := Lib.hid (HR1.out.step hb)
  clear hb HC
  have HC := Lib.hid (cS_ProofClashIs HR1.out (m : Int) s (by omega))
  go_wp2_with fail
  refine HC.out.mono ?_
  rintro e w3 ⟨rfl, hb⟩
  replace HB := Lib.hid (bl_step HB.out hb)
  replace HR1 := Lib.hid (HR1.out.step hb)
  clear hb HC
  by_cases hk : pcB (m : Int) L s = true
  rotate_left
  · have hk0 : pcB (m : Int) L s = false := by simpa using hk
    rw [hk0]
    clear hk hk0
    go_wp2
    go_ret
    exact ⟨rfl, HB.out⟩
  obtain ⟨ht, h0⟩ := pc_told hk
  have E1 := Lib.hid (tel_yes ht).1
  have E2 := Lib.hid h0
  rw [hk]
  clear hk ht h0
  have HC := Lib.hid (cI_ThreeRings HR1.out (m : Int))
  rw [E1.out, E2.out] at HC
  go_wp2_with fail
  refine HC.out.mono ?_
  rintro e w4 ⟨rfl, hb⟩
  replace HB := Lib.hid (bl_step HB.out hb)
  clear HR1
  clear hb HC
  clear E1 E2
  go_wp2
  go_ret
  exact ⟨rfl, HB.out⟩
end Go.Proofs.Ytdndddlikdccgaa
