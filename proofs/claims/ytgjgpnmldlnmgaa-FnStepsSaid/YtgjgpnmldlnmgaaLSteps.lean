/- Steps there and back go round once: the law FnSteps. -/
import Derived.Test.YtgjgpnmldlnmgaaDraw7
import Derived.Test.YtgjgpnmldlnmgaaRingM
import Derived.Test.YtgjgpnmldlnmgaaSameI
namespace Go.Proofs.Ytgjgpnmldlnmgaa
open Go.ChangeShapes Go.WideShapes Go.ChangeAt Go.RowKit

set_option maxRecDepth 10000 in
set_option maxHeartbeats 4000000 in
theorem law_Steps (a0 : Option Addr) (len0 cap0 : Nat) (z0 : List Int) (w : World) (w0 : IsRow .u8 w a0 len0 cap0 z0) :
    Calls Try.prog 9 #[.slice a0 len0 cap0] w fun e w' => e = .returned (.bool true) ∧ Below w.heap.size w w' := by
  obtain ⟨h, hlc, hcm⟩ := byt_of_row w0
  have HD := Lib.hid (drawRingSteps_any len0 cap0 w.heap.size a0 w h (Nat.le_refl _) hlc hcm)
  clear w0 h
  by_cases hn : len0 ≤ 1048576
  rotate_left
  · go_enter Try.func9, Try.ntmps9
    go_wp2_with fail
    go_ret
    exact ⟨rfl, Below.refl _ _⟩
  go_enter Try.func9, Try.ntmps9
  go_wp2_with fail
  refine HD.out.mono ?_
  rintro e w1 ⟨v, l, x, y, rfl, ⟨A1, n1, c1, rfl, hr1⟩, hl, hb⟩
  have HB := Lib.hid hb
  have HR1 := Lib.hid hr1
  clear hb hr1 HD
  have HC := Lib.hid (cI_RingSteps HR1.out x y)
  go_wp2_with fail
  refine HC.out.mono ?_
  rintro e w2 ⟨rfl, hb⟩
  replace HB := Lib.hid (bl_step HB.out hb)
  replace HR1 := Lib.hid (HR1.out.step hb)
  clear hb HC
  have HC := Lib.hid (cS_RingSteps HR1.out x y)
  go_wp2_with fail
  refine HC.out.mono ?_
  rintro e w3 ⟨rfl, hb⟩
  replace HB := Lib.hid (bl_step HB.out hb)
  replace HR1 := Lib.hid (HR1.out.step hb)
  clear hb HC
  by_cases hk : hasB2 l x y = true
  rotate_left
  · rw [hasB2_no hk]
    clear hk
    go_wp2
    go_ret
    exact ⟨rfl, HB.out⟩
  rw [hk]
  obtain ⟨hx', hy'⟩ := hasB2_yes hk
  obtain ⟨hr, _, _, hx⟩ := hasB_yes hx'
  obtain ⟨_, _, _, hy⟩ := hasB_yes hy'
  have hk' : hasB2 l y x = true := by rw [hasB2, hx', hy']; rfl
  have E2 : Hid (hasB2 l y x = true ∧ stepsR l y x = stepsI l y x) := ⟨hk', by rw [stepsR, if_pos hk']⟩
  have hz := steps_zero l x y hr.1 hx hy
  have hz2 := steps_zero l y x hr.1 hy hx
  have hln := HR1.out.len
  have hs : x ≠ y → stepsI l y x = (n1 : Int) - stepsI l x y := fun h => by rw [← hln]; exact steps_back hr.1 hx hy (idx_apart hx hy h)
  rw [stepsR, if_pos hk]
  clear hk hk' hx' hy' hr hx hy
  generalize stepsI l x y = d at *
  generalize stepsI l y x = d' at *
  have HC := Lib.hid (cI_RingSteps HR1.out y x)
  rw [E2.out.1, E2.out.2] at HC
  go_wp2_with fail
  refine HC.out.mono ?_
  rintro e w4 ⟨rfl, hb⟩
  replace HB := Lib.hid (bl_step HB.out hb)
  clear HR1
  clear hb HC
  have h7 : (l.length : Int) ≤ 7 := by omega
  by_cases hxy : x = y
  · have hd : d = 0 := hz.1.2 hxy
    subst hd
    have hb : (x == y) = true := by simpa using hxy
    clear hz hz2 hs hxy E2
    go_wp2
    go_ret
    exact ⟨rfl, HB.out⟩
  · have hd : d ≠ 0 := fun e => hxy (hz.1.1 e)
    have e2 := hs hxy
    have hw : IntKind.i64.wrap (d + d') = (n1 : Int) := by rw [IntWalk.i64_in _ (by omega)]; omega
    have hb : (x == y) = false := by simpa using hxy
    have hb2 : (d == 0) = false := by simpa using hd
    have hge : decide (0 ≤ d) = true := by simp; omega
    clear hs hz hz2 hxy E2 hd
    go_wp2
    go_ret
    exact ⟨rfl, HB.out⟩
end Go.Proofs.Ytgjgpnmldlnmgaa
