/- Tellings that clash have no rings: the law FnClash. -/
import Derived.Test.YtdndddlikdccgaaDraw32
import Derived.Test.YtdndddlikdccgaaLawG
import Derived.Test.YtdndddlikdccgaaTgC
namespace Go.Proofs.Ytdndddlikdccgaa
open Go.ChangeShapes Go.WideShapes Go.ChangeAt Go.RowKit

set_option maxRecDepth 10000 in
set_option maxHeartbeats 4000000 in
theorem law_Clash (a0 : Option Addr) (len0 cap0 : Nat) (z0 : List Int) (w : World) (w0 : IsRow .u8 w a0 len0 cap0 z0) :
    Calls Try.prog 5 #[.slice a0 len0 cap0] w fun e w' => e = .returned (.bool true) ∧ Below w.heap.size w w' := by
  obtain ⟨h, hlc, hcm⟩ := byt_of_row w0
  have HD := Lib.hid (drawTClash_any len0 cap0 w.heap.size a0 w h (Nat.le_refl _) hlc hcm)
  clear w0 h
  by_cases hn : len0 ≤ 1048576
  rotate_left
  · go_enter Try.func5, Try.ntmps5
    go_wp2_with fail
    go_ret
    exact ⟨rfl, Below.refl _ _⟩
  go_enter Try.func5, Try.ntmps5
  go_wp2_with fail
  refine HD.out.mono ?_
  rintro e w1 ⟨m, A1, n1, c1, L, rfl, hr1, ⟨hnc1, hcm1, hn8, hm3, hm10⟩, hb⟩
  have HB := Lib.hid hb
  have HR1 := Lib.hid hr1
  clear hb hr1 HD
  have HC := Lib.hid (cI_ThreeClash HR1.out (m : Int))
  go_wp2_with fail
  refine HC.out.mono ?_
  rintro e w2 ⟨rfl, hb⟩
  replace HB := Lib.hid (bl_step HB.out hb)
  replace HR1 := Lib.hid (HR1.out.step hb)
  clear hb HC
  have HC := Lib.hid (cS_ThreeClash HR1.out (m : Int))
  go_wp2_with fail
  refine HC.out.mono ?_
  rintro e w3 ⟨rfl, hb⟩
  replace HB := Lib.hid (bl_step HB.out hb)
  replace HR1 := Lib.hid (HR1.out.step hb)
  clear hb HC
  cases hk : chB (m : Int) L with
  | false =>
    clear hk
    go_wp2
    go_ret
    exact ⟨rfl, HB.out⟩
  | true =>
    have ⟨ht, hag⟩ := clash_told hk
    rw [Int.toNat_natCast] at hag
    have h7 := Lib.hid (tel_yes ht).1
    have e2 : Hid (rgR (m : Int) L = 0) := by rw [Hid, rgR, if_pos ht, Int.toNat_natCast, hag]; rfl
    have hbd := most_bd (by have := ht.1; omega) (by have := ht.2.1; omega) ht.2.2.2
    have e1 : mvR (m : Int) L = mostV m L := by rw [mvR, if_pos ht, Int.toNat_natCast]
    have hln := HR1.out.len
    rw [← e1, hln, hag] at hbd
    obtain ⟨y, hy⟩ : ∃ y, y = mvR (m : Int) L := ⟨_, rfl⟩
    have E1 := Lib.hid hy
    rw [← hy] at hbd
    have hlt : y < (n1 : Int) := by
      obtain ⟨_, b, c⟩ := hbd
      rcases Int.lt_or_eq_of_le b with h | h
      · exact h
      · have := c.1 h; simp at this
    clear hk ht hag e1 hbd hy hln
    have HC := Lib.hid (cI_ThreeRings HR1.out (m : Int))
    rw [h7.out, e2.out] at HC
    go_wp2_with fail
    refine HC.out.mono ?_
    rintro e w4 ⟨rfl, hb⟩
    replace HB := Lib.hid (bl_step HB.out hb)
    replace HR1 := Lib.hid (HR1.out.step hb)
    clear hb HC
    have HC := Lib.hid (cI_ThreeMost HR1.out (m : Int))
    rw [h7.out, ← E1.out] at HC
    go_wp2_with fail
    refine HC.out.mono ?_
    rintro e w5 ⟨rfl, hb⟩
    replace HB := Lib.hid (bl_step HB.out hb)
    clear HR1
    clear hb HC
    clear h7 e2 E1
    go_wp2
    go_ret
    exact ⟨rfl, HB.out⟩
end Go.Proofs.Ytdndddlikdccgaa
