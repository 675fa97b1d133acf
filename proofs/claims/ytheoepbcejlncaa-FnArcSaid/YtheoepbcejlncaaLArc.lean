/- Arcs leave arcs: the law FnArc. -/
import Derived.Test.YtheoepbcejlncaaDraw15
import Derived.Test.YtheoepbcejlncaaLaw7
namespace Go.Proofs.Ytheoepbcejlncaa
open Go.ChangeShapes Go.WideShapes Go.ChangeAt Go.RowKit

set_option maxRecDepth 10000 in
set_option maxHeartbeats 4000000 in
theorem law_Arc (a0 : Option Addr) (len0 cap0 : Nat) (z0 : List Int) (w : World) (w0 : IsRow .u8 w a0 len0 cap0 z0) :
    Calls Try.prog 3 #[.slice a0 len0 cap0] w fun e w' => e = .returned (.bool true) ∧ Below w.heap.size w w' := by
  obtain ⟨h, hlc, hcm⟩ := byt_of_row w0
  have HD := Lib.hid (drawArcIs_any len0 cap0 w.heap.size a0 w h (Nat.le_refl _) hlc hcm)
  clear w0 h
  by_cases hn : len0 ≤ 1048576
  rotate_left
  · go_enter Try.func3, Try.ntmps3
    go_wp2_with fail
    go_ret
    exact ⟨rfl, Below.refl _ _⟩
  go_enter Try.func3, Try.ntmps3
  go_wp2_with fail
  refine HD.out.mono ?_
  rintro e w1 ⟨v, l, s, rfl, ⟨A1, n1, c1, rfl, hr1⟩, hl, hb⟩
  have HB := Lib.hid hb
  have HR1 := Lib.hid hr1
  clear hb hr1 HD
  have HC := Lib.hid (cI_ArcIs HR1.out s)
  go_wp2_with fail
  refine HC.out.mono ?_
  rintro e w2 ⟨rfl, hb⟩
  replace HB := Lib.hid (bl_step HB.out hb)
  replace HR1 := Lib.hid (HR1.out.step hb)
  clear hb HC
  have HC := Lib.hid (cS_ArcIs HR1.out s)
  go_wp2_with fail
  refine HC.out.mono ?_
  rintro e w3 ⟨rfl, hb⟩
  replace HB := Lib.hid (bl_step HB.out hb)
  replace HR1 := Lib.hid (HR1.out.step hb)
  clear hb HC
  by_cases ha : arcB l s = true
  rotate_left
  · rw [Bool.not_eq_true] at ha
    rw [ha]
    clear ha HR1
    go_wp2
    go_ret
    exact ⟨rfl, HB.out⟩
  have hk := (arc_set7 ha).1
  obtain ⟨k, rfl, hkn, e1, e2, e3, e4, e5, e6, e7, e8⟩ := runs_told hk
  have hr1 : runN (hasN k) l = 1 := by rw [ha] at e4; exact of_decide_eq_true e4.symm
  rw [hr1] at e2 e5 e8
  have hn := HR1.out.len
  have hn3 := hk.1.1.1
  have hn7 := hk.1.1.2.1
  have hbk : backR l = backL l := by rw [backR, if_pos hk.1]
  rw [hn] at e5 hkn hn3 hn7
  rw [ha]
  have hk128 : k < 128 := Nat.lt_of_lt_of_le hkn (Nat.pow_le_pow_right (by omega) hn7 : 2 ^ n1 ≤ 2 ^ 7)
  have HCB := Lib.hid (fun (W : World) (hb : Below w3.heap.size w3 W) => cI_Back7 (HR1.out.step hb))
  rw [ring_yes hk.1, hbk] at HCB
  have HCR := Lib.hid (fun (W : World) (hb : Below w3.heap.size w3 W) => cI_ArcRuns (HR1.out.step hb) (k : Int))
  rw [e2, set_yes hk] at HCR
  have HCI := Lib.hid (fun (W : World) (hb : Below w3.heap.size w3 W) (M : Int) (hM : M = ((2 ^ n1 - 1 - k : Nat) : Int)) => by
    have := cI_ArcIs (HR1.out.step hb) ((2 ^ n1 - 1 - k : Nat) : Int)
    rw [e5, ← hM] at this
    exact this)
  have HCK := Lib.hid (fun (W : World) (A2 : Option Addr) (n2 c2 : Nat) (h2 : Rw W A2 n2 c2 (backL l)) => by
    have := cI_ArcIs h2 (k : Int)
    rw [e8] at this
    exact this)
  clear ha hk e1 e2 e3 e4 e5 e6 e7 e8 hbk hn hl hr1 HR1
  generalize backL l = bl at *
  have hw3 : IntKind.i64.wrap (7 - (k : Int)) = 7 - (k : Int) := IntWalk.i64_in _ (by omega)
  have hw4 : IntKind.i64.wrap (15 - (k : Int)) = 15 - (k : Int) := IntWalk.i64_in _ (by omega)
  have hw5 : IntKind.i64.wrap (31 - (k : Int)) = 31 - (k : Int) := IntWalk.i64_in _ (by omega)
  have hw6 : IntKind.i64.wrap (63 - (k : Int)) = 63 - (k : Int) := IntWalk.i64_in _ (by omega)
  have hw7 : IntKind.i64.wrap (127 - (k : Int)) = 127 - (k : Int) := IntWalk.i64_in _ (by omega)
  have HB0 := Lib.hid HB.out
  have HZ := Lib.hid (Below.refl w3.heap.size w3)
  have hc : n1 = 3 ∨ n1 = 4 ∨ n1 = 5 ∨ n1 = 6 ∨ n1 = 7 := by omega
  obtain rfl | rfl | rfl | rfl | rfl := hc
  all_goals
    go_wp2_with fail
    refine (HCB.out _ HZ.out).mono ?_
    rintro e w4 ⟨v4, rfl, ⟨A2, n2, c2, rfl, hr4⟩, hb⟩
    have HZ4 := Lib.hid (bl_step HZ.out hb)
    have HR4 := Lib.hid hr4
    clear hb hr4
    go_wp2_with fail
    refine (HCR.out _ HZ4.out).mono ?_
    rintro e w5 ⟨rfl, hb⟩
    have HZ5 := Lib.hid (bl_step HZ4.out hb)
    have HR5 := Lib.hid (HR4.out.step hb)
    clear hb HR4 HZ4
    go_wp2_with fail
    refine (HCI.out _ HZ5.out _ (by omega)).mono ?_
    rintro e w6 ⟨rfl, hb⟩
    have HZ6 := Lib.hid (bl_step HZ5.out hb)
    have HR6 := Lib.hid (HR5.out.step hb)
    clear hb HR5 HZ5
    go_wp2_with fail
    refine (HCK.out _ _ _ _ HR6.out).mono ?_
    rintro e w7 ⟨rfl, hb⟩
    have HZ7 := Lib.hid (bl_step HZ6.out hb)
    clear hb
    go_wp2
    go_ret
    exact ⟨rfl, bl_step HB0.out HZ7.out⟩
end Go.Proofs.Ytheoepbcejlncaa
