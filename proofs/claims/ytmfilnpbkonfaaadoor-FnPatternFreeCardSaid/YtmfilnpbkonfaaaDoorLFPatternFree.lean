/- Asking rings and adding count the same free ones: the law FnPatternFree. -/
import Derived.Test.YtmfilnpbkonfaaaDoorDraw18
import Derived.Test.YtmfilnpbkonfaaaDoorPnH
import Derived.Test.YtmfilnpbkonfaaaDoorLaw8F
namespace Go.Proofs.YtmfilnpbkonfaaaDoor
open Go.ChangeShapes Go.WideShapes Go.ChangeAt Go.RowKit

set_option maxRecDepth 10000 in
set_option maxHeartbeats 4000000 in
theorem law_PatternFree (a0 : Option Addr) (len0 cap0 : Nat) (z0 : List Int) (w : World) (w0 : IsRow .u8 w a0 len0 cap0 z0) (hTAB : Tab w) :
    Calls Tryd.prog 3 #[.slice a0 len0 cap0] w fun e w' => e = .returned (.bool true) ∧ Below w.heap.size w w' := by
  obtain ⟨h, hlc, hcm⟩ := byt_of_row w0
  have HD := Lib.hid (drawPatternFree_any len0 cap0 w.heap.size a0 w h (Nat.le_refl _) hlc hcm)
  clear w0 h
  by_cases hn : len0 ≤ 1048576
  rotate_left
  · go_enter Tryd.func3, Tryd.ntmps3
    go_wp2_with fail
    go_ret
    exact ⟨rfl, Below.refl _ _⟩
  go_enter Tryd.func3, Tryd.ntmps3
  go_wp2_with fail
  refine HD.out.mono ?_
  rintro e w1 ⟨x, l, v, rfl, ⟨A1, n1, c1, rfl, hr1⟩, hx, hb⟩
  have HB := Lib.hid hb
  have HR1 := Lib.hid hr1
  have HRT := Lib.hid (hTAB.step hb)
  clear hTAB
  clear hb hr1 HD
  have HC := Lib.hid (cI_PatternFree HR1.out x HRT.out)
  go_wp2_with fail
  refine HC.out.mono ?_
  rintro e w2 ⟨rfl, hb⟩
  replace HB := Lib.hid (bl_step HB.out hb)
  replace HR1 := Lib.hid (HR1.out.step hb)
  replace HRT := Lib.hid (HRT.out.step hb)
  clear hb HC
  have HC := Lib.hid (cS_PatternFree HR1.out x)
  go_wp2_with fail
  refine HC.out.mono ?_
  rintro e w3 ⟨rfl, hb⟩
  replace HB := Lib.hid (bl_step HB.out hb)
  replace HR1 := Lib.hid (HR1.out.step hb)
  replace HRT := Lib.hid (HRT.out.step hb)
  clear hb HC
  by_cases hk : Fre x l
  rotate_left
  · rw [freR, if_neg hk, freB_no hk]
    clear hk
    go_wp2
    go_ret
    exact ⟨rfl, HB.out⟩
  obtain ⟨q, rfl⟩ : ∃ q : Nat, x = (q : Int) := ⟨x.toNat, by have := hk.1; omega⟩
  have hp3 := hk.2.1.1
  have hq := hk.1
  have hbk : Fre (q : Int) (backL l) := ⟨hk.1, backL_ring' hk.2⟩
  have ER : freR (q : Int) l = (freN q l : Int) := by rw [freR, if_pos hk, Int.toNat_natCast]
  have E1 : Hid (ringB l = true ∧ backR l = backL l) := ⟨ring_yes hk.2, by rw [backR, if_pos hk.2]⟩
  have E2 : Hid (freR (q : Int) (backL l) = (freN q l : Int) ∧ freB (q : Int) (backL l) = true) := ⟨by rw [freR, if_pos hbk, Int.toNat_natCast, fre_back (by omega) (by omega) (by omega)], freB_yes hbk⟩
  have E3 : Hid (psmB (q : Int) l = decide (l.length = 4) ∧ (l.length = 4 → psmR (q : Int) l = (freN q l : Int))) := by
    refine ⟨?_, fun h4 => ?_⟩
    · rw [psmB, decide_eq_decide]
      exact ⟨fun h => h.2.2, fun h4 => ⟨hk.1, hk.2, h4⟩⟩
    · rw [psmR, if_pos ⟨hk.1, hk.2, h4⟩, Int.toNat_natCast, fre_sum (by omega) (by omega) hk.2 h4]
  rw [ER, freB_yes hk]
  have HN1 := Lib.hid HR1.out.len
  clear hk hbk ER hp3 hx hq
  generalize freN q l = f at *
  have HC := Lib.hid (c8I_RingBack HR1.out)
  rw [E1.out.1, E1.out.2] at HC
  go_wp2_with fail
  refine HC.out.mono ?_
  rintro e w4 ⟨v, rfl, ⟨A4, n4, c4, rfl, hr⟩, hb⟩
  replace HB := Lib.hid (bl_step HB.out hb)
  replace HR1 := Lib.hid (HR1.out.step hb)
  replace HRT := Lib.hid (HRT.out.step hb)
  have HR4 := Lib.hid hr
  clear hr
  clear hb HC
  have HC := Lib.hid (cI_PatternFree HR4.out (q : Int) HRT.out)
  rw [E2.out.1, E2.out.2] at HC
  go_wp2_with fail
  refine HC.out.mono ?_
  rintro e w5 ⟨rfl, hb⟩
  replace HB := Lib.hid (bl_step HB.out hb)
  replace HR1 := Lib.hid (HR1.out.step hb)
  clear HRT
  clear HR4
  clear hb HC
  have HC := Lib.hid (cI_PatternSum HR1.out (q : Int))
  rw [E3.out.1] at HC
  have hz : Hid (decide (l.length = 4) = ((n1 : Int) == 4)) := by rw [Hid, Bool.eq_iff_iff, decide_eq_true_iff, beq_iff_eq, HN1.out]; omega
  by_cases h4 : n1 = 4
  · rw [E3.out.2 (by rw [HN1.out]; exact h4), hz.out] at HC
    subst h4
    clear E1 E2 E3 HN1 hz HR1
    go_wp2_with fail
    refine HC.out.mono ?_
    rintro e w9 ⟨rfl, hb⟩
    replace HB := Lib.hid (bl_step HB.out hb)
    clear hb HC
    go_wp2
    go_ret
    exact ⟨by first | rfl | simp, HB.out⟩
  · have hn4 : ((n1 : Int) == 4) = false := by simp; omega
    rw [hz.out, hn4] at HC
    generalize psmR (q : Int) l = o at *
    clear E1 E2 E3 HN1 hz HR1
    go_wp2_with fail
    refine HC.out.mono ?_
    rintro e w9 ⟨rfl, hb⟩
    replace HB := Lib.hid (bl_step HB.out hb)
    clear hb HC
    go_wp2
    go_ret
    exact ⟨by first | rfl | simp, HB.out⟩
end Go.Proofs.YtmfilnpbkonfaaaDoor
