/- Proofs of a clash are checked, and there is one for each clash: the law FnProofClash. -/
import Derived.Test.YthefnanhikjddaaDoorDraw34
import Derived.Test.YthefnanhikjddaaDoorLawPC
import Derived.Test.YthefnanhikjddaaDoorLawP
import Derived.Test.YthefnanhikjddaaDoorLawPI
import Derived.Test.YthefnanhikjddaaDoorTgP
import Derived.Test.YthefnanhikjddaaDoorTgQ
namespace Go.Proofs.YthefnanhikjddaaDoor
open Go.ChangeShapes Go.WideShapes Go.ChangeAt Go.RowKit

set_option maxRecDepth 10000 in
set_option maxHeartbeats 4000000 in
theorem law_ProofClash (a0 : Option Addr) (len0 cap0 : Nat) (z0 : List Int) (w : World) (w0 : IsRow .u8 w a0 len0 cap0 z0) (hTAB : Tab w) :
    Calls Tryd.prog 3 #[.slice a0 len0 cap0] w fun e w' => e = .returned (.bool true) ∧ Below w.heap.size w w' := by
  obtain ⟨h, hlc, hcm⟩ := byt_of_row w0
  have HD := Lib.hid (drawProofClash_any len0 cap0 w.heap.size a0 w h (Nat.le_refl _) hlc hcm)
  clear w0 h
  by_cases hn : len0 ≤ 1048576
  rotate_left
  · go_enter Tryd.func3, Tryd.ntmps3
    go_wp2_with fail
    go_ret
    exact ⟨rfl, Below.refl _ _⟩
  go_enter Tryd.func3, Tryd.ntmps3
  go_wp2_with fail
  refine HD.out.mono ?_
  rintro e w1 ⟨m, A1, n1, c1, L, rfl, hr1, ⟨hnc1, hcm1, hn8, hm3, hm10⟩, hb⟩
  have HB := Lib.hid hb
  have HR1 := Lib.hid hr1
  have HRT := Lib.hid (hTAB.step hb)
  clear hTAB
  clear hb hr1 HD
  have HC := Lib.hid (cI_ProofClash HR1.out (m : Int) HRT.out)
  go_wp2_with fail
  refine HC.out.mono ?_
  rintro e w2 ⟨rfl, hb⟩
  replace HB := Lib.hid (bl_step HB.out hb)
  replace HR1 := Lib.hid (HR1.out.step hb)
  replace HRT := Lib.hid (HRT.out.step hb)
  clear hb HC
  have HC := Lib.hid (cS_ProofClash HR1.out (m : Int))
  go_wp2_with fail
  refine HC.out.mono ?_
  rintro e w3 ⟨rfl, hb⟩
  replace HB := Lib.hid (bl_step HB.out hb)
  replace HR1 := Lib.hid (HR1.out.step hb)
  replace HRT := Lib.hid (HRT.out.step hb)
  clear hb HC
  by_cases hk : (ctF (m : Int) L).isSome = true
  rotate_left
  · have hk0 : (ctF (m : Int) L).isSome = false := by simpa using hk
    rw [hk0]
    clear hk hk0
    generalize ctT (m : Int) L = T at *
    go_wp2
    go_ret
    exact ⟨rfl, HB.out⟩
  have E1 := Lib.hid (ct_proof hk)
  have E2 : Hid (chB (m : Int) L = true) := by rw [Hid, ch_ct, hk]
  have hsz := ct_size (q := (m : Int)) (L := L)
  rw [hk]
  clear hk
  generalize ctT (m : Int) L = T at *
  have HC := Lib.hid (cI_ProofClashIs HR1.out (m : Int) T (by omega))
  rw [E1.out] at HC
  go_wp2_with fail
  refine HC.out.mono ?_
  rintro e w4 ⟨rfl, hb⟩
  replace HB := Lib.hid (bl_step HB.out hb)
  replace HR1 := Lib.hid (HR1.out.step hb)
  clear HRT
  clear hb HC
  have HC := Lib.hid (cI_ThreeClash HR1.out (m : Int))
  rw [E2.out] at HC
  go_wp2_with fail
  refine HC.out.mono ?_
  rintro e w5 ⟨rfl, hb⟩
  replace HB := Lib.hid (bl_step HB.out hb)
  clear HR1
  clear hb HC
  clear E1 E2
  go_wp2
  go_ret
  exact ⟨rfl, HB.out⟩
end Go.Proofs.YthefnanhikjddaaDoor
