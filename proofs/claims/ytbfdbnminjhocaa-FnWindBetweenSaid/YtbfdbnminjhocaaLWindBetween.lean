/- Lesser windings are those of one of both: the law FnWindBetween. -/
import Derived.Test.YtbfdbnminjhocaaDraw12
import Derived.Test.YtbfdbnminjhocaaWindO
import Derived.Test.YtbfdbnminjhocaaSameI
namespace Go.Proofs.Ytbfdbnminjhocaa
open Go.ChangeShapes Go.WideShapes Go.ChangeAt Go.RowKit

set_option maxRecDepth 10000 in
set_option maxHeartbeats 4000000 in
theorem law_WindBetween (a0 : Option Addr) (len0 cap0 : Nat) (z0 : List Int) (w : World) (w0 : IsRow .u8 w a0 len0 cap0 z0) :
    Calls Try.prog 8 #[.slice a0 len0 cap0] w fun e w' => e = .returned (.bool true) ∧ Below w.heap.size w w' := by
  obtain ⟨h, hlc, hcm⟩ := byt_of_row w0
  have HD := Lib.hid (drawWindBetween_any len0 cap0 w.heap.size a0 w h (Nat.le_refl _) hlc hcm)
  clear w0 h
  by_cases hn : len0 ≤ 1048576
  rotate_left
  · go_enter Try.func8, Try.ntmps8
    go_wp2_with fail
    go_ret
    exact ⟨rfl, Below.refl _ _⟩
  go_enter Try.func8, Try.ntmps8
  go_wp2_with fail
  refine HD.out.mono ?_
  rintro e w1 ⟨v, v', v'', l, p, q, rfl, ⟨A1, n1, c1, rfl, hr1⟩, ⟨A9, n9, c9, rfl, hr9⟩, ⟨A8, n8, c8, rfl, hr8⟩, hb⟩
  have HB := Lib.hid hb
  have HR1 := Lib.hid hr1
  have HR9 := Lib.hid hr9
  have HR8 := Lib.hid hr8
  clear hb hr1 hr9 hr8 HD
  have HC := Lib.hid (cI_WindBetween HR1.out HR9.out HR8.out)
  go_wp2_with fail
  refine HC.out.mono ?_
  rintro e w2 ⟨rfl, hb⟩
  replace HB := Lib.hid (bl_step HB.out hb)
  replace HR1 := Lib.hid (HR1.out.step hb)
  replace HR9 := Lib.hid (HR9.out.step hb)
  replace HR8 := Lib.hid (HR8.out.step hb)
  clear hb HC
  have HC := Lib.hid (cS_WindBetween HR1.out HR9.out HR8.out)
  go_wp2_with fail
  refine HC.out.mono ?_
  rintro e w3 ⟨rfl, hb⟩
  replace HB := Lib.hid (bl_step HB.out hb)
  replace HR1 := Lib.hid (HR1.out.step hb)
  replace HR9 := Lib.hid (HR9.out.step hb)
  replace HR8 := Lib.hid (HR8.out.step hb)
  clear hb HC
  by_cases hk : TwoR l p ∧ TwoR l q
  rotate_left
  · rw [wb_no hk]
    clear hk
    go_wp2
    go_ret
    exact ⟨rfl, HB.out⟩
  rw [wb_yes hk]
  rw [wbR, if_pos hk]
  have E2 : Hid (twoB l p = true ∧ woR l p = windL l p) := ⟨twoYes hk.1, by rw [woR, if_pos hk.1]⟩
  have E3 : Hid (twoB l q = true ∧ woR l q = windL l q) := ⟨twoYes hk.2, by rw [woR, if_pos hk.2]⟩
  clear hk
  generalize windL l p = d at *
  generalize windL l q = d' at *
  by_cases hle : d ≤ d'
  · rw [if_pos hle]
    have hmin : min d d' = d := by omega
    clear hle
    have HC := Lib.hid (cI_WindOf HR1.out HR9.out)
    rw [E2.out.1, E2.out.2] at HC
    go_wp2_with fail
    refine HC.out.mono ?_
    rintro e w4 ⟨rfl, hb⟩
    replace HB := Lib.hid (bl_step HB.out hb)
    replace HR1 := Lib.hid (HR1.out.step hb)
    replace HR9 := Lib.hid (HR9.out.step hb)
    replace HR8 := Lib.hid (HR8.out.step hb)
    clear hb HC
    have HC := Lib.hid (cI_WindOf HR1.out HR8.out)
    rw [E3.out.1, E3.out.2] at HC
    go_wp2_with fail
    refine HC.out.mono ?_
    rintro e w5 ⟨rfl, hb⟩
    replace HB := Lib.hid (bl_step HB.out hb)
    clear HR1
    clear HR9
    clear HR8
    clear hb HC
    clear E2 E3
    go_wp2
    go_ret
    exact ⟨rfl, HB.out⟩
  · rw [if_neg hle]
    have hmin : min d d' = d' := by omega
    clear hle
    have HC := Lib.hid (cI_WindOf HR1.out HR9.out)
    rw [E2.out.1, E2.out.2] at HC
    go_wp2_with fail
    refine HC.out.mono ?_
    rintro e w4 ⟨rfl, hb⟩
    replace HB := Lib.hid (bl_step HB.out hb)
    replace HR1 := Lib.hid (HR1.out.step hb)
    replace HR9 := Lib.hid (HR9.out.step hb)
    replace HR8 := Lib.hid (HR8.out.step hb)
    clear hb HC
    have HC := Lib.hid (cI_WindOf HR1.out HR8.out)
    rw [E3.out.1, E3.out.2] at HC
    go_wp2_with fail
    refine HC.out.mono ?_
    rintro e w5 ⟨rfl, hb⟩
    replace HB := Lib.hid (bl_step HB.out hb)
    clear HR1
    clear HR9
    clear HR8
    clear hb HC
    clear E2 E3
    go_wp2
    go_ret
    exact ⟨rfl, HB.out⟩
end Go.Proofs.Ytbfdbnminjhocaa
