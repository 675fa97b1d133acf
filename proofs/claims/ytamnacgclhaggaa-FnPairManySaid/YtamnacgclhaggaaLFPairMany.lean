/- Each four points have one parting: the law FnPairMany. -/
import Derived.Test.YtamnacgclhaggaaDraw38
import Derived.Test.YtamnacgclhaggaaLawQ
import Derived.Test.YtamnacgclhaggaaPqC
namespace Go.Proofs.Ytamnacgclhaggaa
open Go.ChangeShapes Go.WideShapes Go.ChangeAt Go.RowKit

set_option maxRecDepth 10000 in
set_option maxHeartbeats 4000000 in
theorem law_PairMany (a0 : Option Addr) (len0 cap0 : Nat) (z0 : List Int) (w : World) (w0 : IsRow .u8 w a0 len0 cap0 z0) :
    Calls Try.prog 7 #[.slice a0 len0 cap0] w fun e w' => e = .returned (.bool true) ∧ Below w.heap.size w w' := by
  obtain ⟨h, hlc, hcm⟩ := byt_of_row w0
  have HD := Lib.hid (drawPairMany_any len0 cap0 w.heap.size a0 w h (Nat.le_refl _) hlc hcm)
  clear w0 h
  by_cases hn : len0 ≤ 1048576
  rotate_left
  · go_enter Try.func7, Try.ntmps7
    go_wp2_with fail
    go_ret
    exact ⟨rfl, Below.refl _ _⟩
  go_enter Try.func7, Try.ntmps7
  go_wp2_with fail
  refine HD.out.mono ?_
  rintro e w1 ⟨v, l, rfl, ⟨A1, n1, c1, rfl, hr1⟩, hl, hb⟩
  have HB := Lib.hid hb
  have HR1 := Lib.hid hr1
  clear hb hr1 HD
  have HC := Lib.hid (cI_PairMany HR1.out)
  go_wp2_with fail
  refine HC.out.mono ?_
  rintro e w2 ⟨rfl, hb⟩
  replace HB := Lib.hid (bl_step HB.out hb)
  replace HR1 := Lib.hid (HR1.out.step hb)
  clear hb HC
  have HC := Lib.hid (cS_PairMany HR1.out)
  go_wp2_with fail
  refine HC.out.mono ?_
  rintro e w3 ⟨rfl, hb⟩
  replace HB := Lib.hid (bl_step HB.out hb)
  replace HR1 := Lib.hid (HR1.out.step hb)
  clear hb HC
  by_cases hk : pmB l = true
  rotate_left
  · have hk0 : pmB l = false := by simpa using hk
    rw [hk0]
    clear hk hk0
    go_wp2
    go_ret
    exact ⟨rfl, HB.out⟩
  obtain ⟨hr, h4⟩ := pm_told hk
  have h24 := many_count hr
  have hz := (pm_yes hr h4).2
  have hln := HR1.out.len
  have h7 := HR1.out.2.2.2
  rw [hk, hz]
  rw [hln] at h24 h4
  generalize (allP l).length = z at *
  clear hk hr hz hln hl HR1
  obtain rfl | rfl | rfl | rfl : n1 = 4 ∨ n1 = 5 ∨ n1 = 6 ∨ n1 = 7 := by omega
  · obtain rfl : z = 1 := by simp at h24; omega
    clear h24
    go_wp2
    go_ret
    exact ⟨rfl, HB.out⟩
  · obtain rfl : z = 5 := by simp at h24; omega
    clear h24
    go_wp2
    go_ret
    exact ⟨rfl, HB.out⟩
  · obtain rfl : z = 15 := by simp at h24; omega
    clear h24
    go_wp2
    go_ret
    exact ⟨rfl, HB.out⟩
  · obtain rfl : z = 35 := by simp at h24; omega
    clear h24
    go_wp2
    go_ret
    exact ⟨rfl, HB.out⟩
end Go.Proofs.Ytamnacgclhaggaa
