/- Rings of one point more are as many times as many: the law FnCount. -/
import Derived.Test.YtgjgpnmldlnmgaaDraw8
import Derived.Test.YtgjgpnmldlnmgaaRingM
import Derived.Test.YtgjgpnmldlnmgaaSameI
namespace Go.Proofs.Ytgjgpnmldlnmgaa
open Go.ChangeShapes Go.WideShapes Go.ChangeAt Go.RowKit

set_option maxRecDepth 10000 in
set_option maxHeartbeats 4000000 in
theorem law_Count (a0 : Option Addr) (len0 cap0 : Nat) (z0 : List Int) (w : World) (w0 : IsRow .u8 w a0 len0 cap0 z0) :
    Calls Try.prog 13 #[.slice a0 len0 cap0] w fun e w' => e = .returned (.bool true) ∧ Below w.heap.size w w' := by
  obtain ⟨h, hlc, hcm⟩ := byt_of_row w0
  have HD := Lib.hid (drawRingCount_any len0 cap0 w.heap.size a0 w h (Nat.le_refl _) hlc hcm)
  clear w0 h
  by_cases hn : len0 ≤ 1048576
  rotate_left
  · go_enter Try.func13, Try.ntmps13
    go_wp2_with fail
    go_ret
    exact ⟨rfl, Below.refl _ _⟩
  go_enter Try.func13, Try.ntmps13
  go_wp2_with fail
  refine HD.out.mono ?_
  rintro e w1 ⟨x, rfl, hl, hb⟩
  have HB := Lib.hid hb
  clear hb  HD
  have HC := Lib.hid (cI_RingCount x w1)
  go_wp2_with fail
  refine HC.out.mono ?_
  rintro e w2 ⟨rfl, hb⟩
  replace HB := Lib.hid (bl_step HB.out hb)
  clear hb HC
  have HC := Lib.hid (cS_RingCount x w2)
  go_wp2_with fail
  refine HC.out.mono ?_
  rintro e w3 ⟨rfl, hb⟩
  replace HB := Lib.hid (bl_step HB.out hb)
  clear hb HC
  by_cases hk : 3 ≤ x ∧ x ≤ 7
  rotate_left
  · have e1 : (decide (3 ≤ x) && decide (x ≤ 7)) = false := by simpa using hk
    rw [e1]
    have e2 : rcount x = 0 := by rw [rcount, if_neg hk]
    rw [e2]
    clear hk e1 e2
    go_wp2
    go_ret
    exact ⟨rfl, HB.out⟩
  have e1 : (decide (3 ≤ x) && decide (x ≤ 7)) = true := by simpa using hk
  rw [e1]
  have hw : IntKind.i64.wrap (x + 1) = x + 1 := IntWalk.i64_in _ (by omega)
  have HC := Lib.hid (cI_RingCount (x + 1) w3)
  have hm : Hid (x = 3 ∧ rcount x = 2 ∧ rcount (x + 1) = 6 ∨ x = 4 ∧ rcount x = 6 ∧ rcount (x + 1) = 24 ∨ x = 5 ∧ rcount x = 24 ∧ rcount (x + 1) = 120 ∨ x = 6 ∧ rcount x = 120 ∧ rcount (x + 1) = 720 ∨ x = 7 ∧ rcount x = 720 ∧ rcount (x + 1) = 0) := by
    obtain rfl | rfl | rfl | rfl | rfl : x = 3 ∨ x = 4 ∨ x = 5 ∨ x = 6 ∨ x = 7 := by omega
    all_goals (rw [Hid]; decide)
  clear e1
  go_wp2_with fail
  refine HC.out.mono ?_
  rintro e w4 ⟨rfl, hb⟩
  have HBx := Lib.hid (bl_step HB.out hb)
  clear hb HC HB
  rcases hm.out with ⟨e1, e2, e3⟩ | ⟨e1, e2, e3⟩ | ⟨e1, e2, e3⟩ | ⟨e1, e2, e3⟩ | ⟨e1, e2, e3⟩
  all_goals
    clear hm
    rw [e2, e3]
    subst e1
    clear e2 e3 hw hk hl
    go_wp2
    go_ret
    exact ⟨rfl, HBx.out⟩
end Go.Proofs.Ytgjgpnmldlnmgaa
