/- Least sets have the pattern: the law FnPatternFirst. -/
import Derived.Test.YtmfilnpbkonfaabDoorDraw19
import Derived.Test.YtmfilnpbkonfaabDoorPnL
import Derived.Test.YtmfilnpbkonfaabDoorLaw8O
import Derived.Test.YtmfilnpbkonfaabDoorLaw8Q
namespace Go.Proofs.YtmfilnpbkonfaabDoor
open Go.ChangeShapes Go.WideShapes Go.ChangeAt Go.RowKit

set_option maxRecDepth 10000 in
set_option maxHeartbeats 4000000 in
theorem law_PatternFirst (a0 : Option Addr) (len0 cap0 : Nat) (z0 : List Int) (w : World) (w0 : IsRow .u8 w a0 len0 cap0 z0) (hTAB : Tab w) :
    Calls Tryd.prog 4 #[.slice a0 len0 cap0] w fun e w' => e = .returned (.bool true) ∧ Below w.heap.size w w' := by
  obtain ⟨h, hlc, hcm⟩ := byt_of_row w0
  have HD := Lib.hid (drawPatternFirst_any len0 cap0 w.heap.size a0 w h (Nat.le_refl _) hlc hcm)
  clear w0 h
  by_cases hn : len0 ≤ 1048576
  rotate_left
  · go_enter Tryd.func4, Tryd.ntmps4
    go_wp2_with fail
    go_ret
    exact ⟨rfl, Below.refl _ _⟩
  go_enter Tryd.func4, Tryd.ntmps4
  go_wp2_with fail
  refine HD.out.mono ?_
  rintro e w1 ⟨v, l, v', p, rfl, ⟨A1, n1, c1, rfl, hr1⟩, ⟨A2, n2, c2, rfl, hr2⟩, hb⟩
  have HB := Lib.hid hb
  have HR1 := Lib.hid hr1
  have HR2 := Lib.hid hr2
  have HRT := Lib.hid (hTAB.step hb)
  clear hTAB
  clear hb hr1 hr2 HD
  have HC := Lib.hid (cI_PatternFirst HR1.out HR2.out HRT.out)
  go_wp2_with fail
  refine HC.out.mono ?_
  rintro e w2 ⟨rfl, hb⟩
  replace HB := Lib.hid (bl_step HB.out hb)
  replace HR1 := Lib.hid (HR1.out.step hb)
  replace HR2 := Lib.hid (HR2.out.step hb)
  replace HRT := Lib.hid (HRT.out.step hb)
  clear hb HC
  have HC := Lib.hid (cS_PatternFirst HR1.out HR2.out)
  go_wp2_with fail
  refine HC.out.mono ?_
  rintro e w3 ⟨rfl, hb⟩
  replace HB := Lib.hid (bl_step HB.out hb)
  replace HR1 := Lib.hid (HR1.out.step hb)
  replace HR2 := Lib.hid (HR2.out.step hb)
  replace HRT := Lib.hid (HRT.out.step hb)
  clear hb HC
  by_cases hk : pfB l p = true
  rotate_left
  · rw [show pfB l p = false by simpa using hk]
    clear hk
    go_wp2
    go_ret
    exact ⟨rfl, HB.out⟩
  obtain ⟨F, e1, e2, e3⟩ := pf_facts hk
  have HE := Lib.hid e3
  rw [hk, e1]
  clear hk e1 e3
  have HZ0 := Lib.hid (Below.refl w3.heap.size w3)
  go_wp2
  go_loopw [9] (fun i wr => ∃ k : Nat, k ≤ F + 1 ∧ i = .int .i64 k ∧ Hid (Rw wr A1 n1 c1 l) ∧ Hid (Rw wr A2 n2 c2 p) ∧ Hid (Tab wr) ∧ Hid (Below w3.heap.size w3 wr)) (fun i _ => F + 1 - (intOf i).toNat)
  case atStart => exact ⟨0, Nat.zero_le _, rfl, HR1, HR2, HRT, HZ0⟩
  case round =>
    obtain ⟨k, hk, rfl, hR1, hR2, hRT, hZ⟩ := hrel
    clear HR1 HR2 HRT HZ0
    by_cases hlt : k ≤ F
    · have HC := Lib.hid (cI_PatternAt hR1.out hR2.out (k : Int) hRT.out)
      rw [HE.out k hlt] at HC
      by_cases hkF : k = F
      · have hd : ((k : Int) == (F : Int)) = true := by rw [hkF]; simp
        rw [decide_eq_true hkF] at HC
        clear hkF
        go_wp2_with fail
        refine HC.out.mono ?_
        rintro e w9 ⟨rfl, hb⟩
        have HR1' := Lib.hid (hR1.out.step hb)
        have HR2' := Lib.hid (hR2.out.step hb)
        have HRT' := Lib.hid (hRT.out.step hb)
        have HZ' := Lib.hid (bl_step hZ.out hb)
        clear hb HC
        go_wp2
        go_roundw
        case rel => exact ⟨k + 1, by omega, by go_num, HR1', HR2', HRT', HZ'⟩
        case measure => simp [intOf]; omega
      · have hd : ((k : Int) == (F : Int)) = false := by simp; omega
        rw [decide_eq_false hkF] at HC
        clear hkF
        go_wp2_with fail
        refine HC.out.mono ?_
        rintro e w9 ⟨rfl, hb⟩
        have HR1' := Lib.hid (hR1.out.step hb)
        have HR2' := Lib.hid (hR2.out.step hb)
        have HRT' := Lib.hid (hRT.out.step hb)
        have HZ' := Lib.hid (bl_step hZ.out hb)
        clear hb HC
        go_wp2
        go_roundw
        case rel => exact ⟨k + 1, by omega, by go_num, HR1', HR2', HRT', HZ'⟩
        case measure => simp [intOf]; omega
    · obtain rfl : k = F + 1 := by omega
      go_wp2
      go_ret
      exact ⟨rfl, bl_step HB.out hZ.out⟩
end Go.Proofs.YtmfilnpbkonfaabDoor
