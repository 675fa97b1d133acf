/- Points beside each other are an arc: the law FnBesideArc. -/
import Derived.Test.YtheoepbcejlncaaDraw17
import Derived.Test.YtheoepbcejlncaaBesA
namespace Go.Proofs.Ytheoepbcejlncaa
open Go.ChangeShapes Go.WideShapes Go.ChangeAt Go.RowKit

set_option maxRecDepth 10000 in
set_option maxHeartbeats 4000000 in
theorem law_BesideArc (a0 : Option Addr) (len0 cap0 : Nat) (z0 : List Int) (w : World) (w0 : IsRow .u8 w a0 len0 cap0 z0) :
    Calls Try.prog 11 #[.slice a0 len0 cap0] w fun e w' => e = .returned (.bool true) ∧ Below w.heap.size w w' := by
  obtain ⟨h, hlc, hcm⟩ := byt_of_row w0
  have HD := Lib.hid (drawPairBeside_any len0 cap0 w.heap.size a0 w h (Nat.le_refl _) hlc hcm)
  clear w0 h
  by_cases hn : len0 ≤ 1048576
  rotate_left
  · go_enter Try.func11, Try.ntmps11
    go_wp2_with fail
    go_ret
    exact ⟨rfl, Below.refl _ _⟩
  go_enter Try.func11, Try.ntmps11
  go_wp2_with fail
  refine HD.out.mono ?_
  rintro e w1 ⟨v, L, x, y, rfl, ⟨A1, n1, c1, rfl, hr1⟩, hl, hb⟩
  have HB := Lib.hid hb
  have HR1 := Lib.hid hr1
  clear hb hr1 HD
  have HC := Lib.hid (cI_PairBesideB HR1.out x y)
  go_wp2_with fail
  refine HC.out.mono ?_
  rintro e w2 ⟨rfl, hb⟩
  replace HB := Lib.hid (bl_step HB.out hb)
  replace HR1 := Lib.hid (HR1.out.step hb)
  clear hb HC
  have HC := Lib.hid (cS_PairBesideB HR1.out x y)
  go_wp2_with fail
  refine HC.out.mono ?_
  rintro e w3 ⟨rfl, hb⟩
  replace HB := Lib.hid (bl_step HB.out hb)
  replace HR1 := Lib.hid (HR1.out.step hb)
  clear hb HC
  cases hf : bsB L x y with
  | false =>
    clear hf HR1
    go_wp2
    go_ret
    exact ⟨rfl, HB.out⟩
  | true =>
    obtain ⟨hx0, hx7, hy0, hy7, s, hs, ha⟩ := beside_told hf
    have HX := Lib.hid (fun (W : World) (hb : Below w3.heap.size w3 W) (M : Int) (hM : M = (s : Int)) => by
      have := cI_ArcIsB (HR1.out.step hb) (s : Int)
      rw [ha, ← hM] at this
      exact this)
    have HS := Lib.hid hs
    have HZ := Lib.hid (Below.refl w3.heap.size w3)
    clear hf ha hs HR1 hl
    have hxc : x = 0 ∨ x = 1 ∨ x = 2 ∨ x = 3 ∨ x = 4 ∨ x = 5 ∨ x = 6 := by omega
    have hyc : y = 0 ∨ y = 1 ∨ y = 2 ∨ y = 3 ∨ y = 4 ∨ y = 5 ∨ y = 6 := by omega
    clear hx0 hx7 hy0 hy7
    obtain rfl | rfl | rfl | rfl | rfl | rfl | rfl := hxc
    all_goals
      obtain rfl | rfl | rfl | rfl | rfl | rfl | rfl := hyc
      all_goals
        go_wp2_with fail
        go_region_held3 (fun _ => True) (exact trivial) (first
          | (go_at_call 13; refine (HX.out _ (by first | exact HZ.out | exact HZ.out.drew) _ (by rw [HS.out]; decide)).mono ?_; rintro e w4 ⟨rfl, hb⟩; have HZ4 := Lib.hid (bl_step HZ.out.drew hb); clear hb))
        all_goals
          go_wp2
          go_ret
          exact ⟨rfl, bl_step HB.out HZ4.out⟩
end Go.Proofs.Ytheoepbcejlncaa
