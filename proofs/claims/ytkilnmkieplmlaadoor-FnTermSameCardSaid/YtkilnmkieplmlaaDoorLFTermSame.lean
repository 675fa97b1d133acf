/- Terms that tell one ring do so both ways: the law FnTermSame. -/
import Derived.Test.YtkilnmkieplmlaaDoorDraw28
import Derived.Test.YtkilnmkieplmlaaDoorLawV
namespace Go.Proofs.YtkilnmkieplmlaaDoor
open Go.ChangeShapes Go.WideShapes Go.ChangeAt Go.RowKit

set_option maxRecDepth 10000 in
set_option maxHeartbeats 4000000 in
theorem law_TermSame (a0 : Option Addr) (len0 cap0 : Nat) (z0 : List Int) (w : World) (w0 : IsRow .u8 w a0 len0 cap0 z0) (hTAB : Hand w) :
    Calls Tryd.prog 3 #[.slice a0 len0 cap0] w fun e w' => e = .returned (.bool true) ∧ Below w.heap.size w w' := by
  obtain ⟨h, hlc, hcm⟩ := byt_of_row w0
  have HD := Lib.hid (drawTermSame_any len0 cap0 w.heap.size a0 w h (Nat.le_refl _) hlc hcm)
  clear w0 h
  by_cases hn : len0 ≤ 1048576
  rotate_left
  · go_enter Tryd.func3, Tryd.ntmps3
    go_wp2_with fail
    go_ret
    exact ⟨rfl, Below.refl _ _⟩
  go_enter Tryd.func3, Tryd.ntmps3
  go_wp2_with fail
  refine HD.out.mono ?_
  rintro e w1 ⟨s, t, rfl, hs, ht, hb⟩
  have HB := Lib.hid hb
  have HRT := Lib.hid (hTAB.step hb)
  clear hTAB
  clear hb  HD
  have HC := Lib.hid (sameTI_any s t w1 HRT.out (by omega) (by omega))
  go_wp2_with fail
  refine HC.out.mono ?_
  rintro e w2 ⟨rfl, hb⟩
  replace HB := Lib.hid (bl_step HB.out hb)
  replace HRT := Lib.hid (HRT.out.step hb)
  clear hb HC
  have HC := Lib.hid (sameS_any s t w2 (by omega) (by omega))
  go_wp2_with fail
  refine HC.out.mono ?_
  rintro e w3 ⟨rfl, hb⟩
  replace HB := Lib.hid (bl_step HB.out hb)
  replace HRT := Lib.hid (HRT.out.step hb)
  clear hb HC
  by_cases hk : tsameB s.data.toList t.data.toList = true
  rotate_left
  · have hk0 : tsameB s.data.toList t.data.toList = false := by simpa using hk
    rw [hk0]
    clear hk hk0
    go_wp2
    go_ret
    exact ⟨rfl, HB.out⟩
  have E1 := Lib.hid (tsame_swap hk)
  have E2 : Hid (tsameB s.data.toList (⟨#[45]⟩ ++ t : ByteArray).data.toList = false) := by
    rw [sign_list]
    exact tsame_sign hk
  rw [hk]
  clear hk
  have hs2 := sign_size t
  have HS2 : (⟨#[45]⟩ ++ t : ByteArray).size ≤ 1048576 := by omega
  clear hs2
  have HC := Lib.hid (sameTI_any t s w3 HRT.out (by omega) (by omega))
  rw [E1.out] at HC
  go_wp2_with fail
  refine HC.out.mono ?_
  rintro e w4 ⟨rfl, hb⟩
  replace HB := Lib.hid (bl_step HB.out hb)
  replace HRT := Lib.hid (HRT.out.step hb)
  clear hb HC
  have HC := Lib.hid (sameTI_any s (⟨#[45]⟩ ++ t) w4 HRT.out (by omega) HS2)
  rw [E2.out] at HC
  go_wp2_with fail
  refine HC.out.mono ?_
  rintro e w5 ⟨rfl, hb⟩
  replace HB := Lib.hid (bl_step HB.out hb)
  clear HRT
  clear hb HC
  clear E1 E2
  go_wp2
  go_ret
  exact ⟨rfl, HB.out⟩
end Go.Proofs.YtkilnmkieplmlaaDoor
