/- Sets come apart into as many arcs as what they leave: the law FnRuns. -/
import Derived.Test.YtheoepbcejlncaaDraw15
import Derived.Test.YtheoepbcejlncaaLaw7
namespace Go.Proofs.Ytheoepbcejlncaa
open Go.ChangeShapes Go.WideShapes Go.ChangeAt Go.RowKit

set_option maxRecDepth 10000 in
set_option maxHeartbeats 4000000 in
theorem law_Runs (a0 : Option Addr) (len0 cap0 : Nat) (z0 : List Int) (w : World) (w0 : IsRow .u8 w a0 len0 cap0 z0) :
    Calls Try.prog 8 #[.slice a0 len0 cap0] w fun e w' => e = .returned (.bool true) ∧ Below w.heap.size w w' := by
  obtain ⟨h, hlc, hcm⟩ := byt_of_row w0
  have HD := Lib.hid (drawArcRuns_any len0 cap0 w.heap.size a0 w h (Nat.le_refl _) hlc hcm)
  clear w0 h
  by_cases hn : len0 ≤ 1048576
  rotate_left
  · go_enter Try.func8, Try.ntmps8
    go_wp2_with fail
    go_ret
    exact ⟨rfl, Below.refl _ _⟩
  go_enter Try.func8, Try.ntmps8
  go_wp2_with fail
  refine HD.out.mono ?_
  rintro e w1 ⟨v, l, s, rfl, ⟨A1, n1, c1, rfl, hr1⟩, hl, hb⟩
  have HB := Lib.hid hb
  have HR1 := Lib.hid hr1
  clear hb hr1 HD
  have HC := Lib.hid (cI_ArcRuns HR1.out s)
  go_wp2_with fail
  refine HC.out.mono ?_
  rintro e w2 ⟨rfl, hb⟩
  replace HB := Lib.hid (bl_step HB.out hb)
  replace HR1 := Lib.hid (HR1.out.step hb)
  clear hb HC
  have HC := Lib.hid (cS_ArcRuns HR1.out s)
  go_wp2_with fail
  refine HC.out.mono ?_
  rintro e w3 ⟨rfl, hb⟩
  replace HB := Lib.hid (bl_step HB.out hb)
  replace HR1 := Lib.hid (HR1.out.step hb)
  clear hb HC
  by_cases hk : SetL l s
  rotate_left
  · rw [set_no hk]
    generalize runR l s = F
    have h2 : (F != F) = false := by simp
    have h4 : (F == F) = true := by simp
    clear hk HR1
    go_wp2
    go_ret
    exact ⟨rfl, HB.out⟩
  obtain ⟨k, rfl, hkn, e1, e2, e3, e4, e5, e6, _⟩ := runs_told hk
  have hn := HR1.out.len
  have hn3 := hk.1.1.1
  have hn7 := hk.1.1.2.1
  rw [hn] at e1 e3 e5 e6 hkn hn3 hn7
  rw [set_yes hk, e2]
  have hk128 : k < 128 := Nat.lt_of_lt_of_le hkn (Nat.pow_le_pow_right (by omega) hn7 : 2 ^ n1 ≤ 2 ^ 7)
  have HCR := Lib.hid (fun (W : World) (hb : Below w3.heap.size w3 W) => cI_ArcRuns (HR1.out.step hb) ((2 ^ n1 - 1 - k : Nat) : Int))
  rw [e1, e3] at HCR
  have HCI := Lib.hid (fun (W : World) (hb : Below w3.heap.size w3 W) => cI_ArcIs (HR1.out.step hb) (k : Int))
  rw [e4] at HCI
  generalize runN (hasN k) l = r at *
  have hd : Hid (decide (r = 1) = ((r : Int) == 1)) := by rw [Hid, Bool.eq_iff_iff, decide_eq_true_iff, beq_iff_eq]; omega
  rw [hd.out] at HCI
  clear hk e1 e2 e3 e4 e5 hn hl hd
  have h1 : ((r : Int) != (r : Int)) = false := by simp
  have h2 : ((r : Int) == (r : Int)) = true := by simp
  have hm : decide (2 * (r : Int) ≤ (n1 : Int)) = true := by simp; omega
  have hbb : (((r : Int) == 1) == ((r : Int) == 1)) = true := by simp
  have hw3 : IntKind.i64.wrap (7 - (k : Int)) = 7 - (k : Int) := IntWalk.i64_in _ (by omega)
  have hw4 : IntKind.i64.wrap (15 - (k : Int)) = 15 - (k : Int) := IntWalk.i64_in _ (by omega)
  have hw5 : IntKind.i64.wrap (31 - (k : Int)) = 31 - (k : Int) := IntWalk.i64_in _ (by omega)
  have hw6 : IntKind.i64.wrap (63 - (k : Int)) = 63 - (k : Int) := IntWalk.i64_in _ (by omega)
  have hw7 : IntKind.i64.wrap (127 - (k : Int)) = 127 - (k : Int) := IntWalk.i64_in _ (by omega)
  have HCR2 : Hid (∀ (M : Int), M = ((2 ^ n1 - 1 - k : Nat) : Int) → ∀ (W : World), Below w3.heap.size w3 W → Calls Try.prog 16 #[.slice A1 n1 c1, .int .i64 M] W fun e w' => e = .returned (.tuple #[.int .i64 (r : Int), .bool true]) ∧ Below W.heap.size W w') := fun M hM W hb => by rw [hM]; exact HCR.out W hb
  clear HCR HR1
  have HB0 := Lib.hid HB.out
  have HZ := Lib.hid (Below.refl w3.heap.size w3)
  have hc : n1 = 3 ∨ n1 = 4 ∨ n1 = 5 ∨ n1 = 6 ∨ n1 = 7 := by omega
  obtain rfl | rfl | rfl | rfl | rfl := hc
  all_goals
    go_wp2_with (first
      | (go_at_call 16
         refine (HCR2.out _ (by omega) _ HZ.out).mono ?_
         rintro e w4 ⟨rfl, hb⟩
         have HZ4 := Lib.hid (bl_step HZ.out hb)
         clear hb)
      | (go_at_call 13
         refine (HCI.out _ HZ4.out).mono ?_
         rintro e w5 ⟨rfl, hb⟩
         have HZ5 := Lib.hid (bl_step HZ4.out hb)
         clear hb))
    go_ret
    exact ⟨rfl, bl_step HB0.out HZ5.out⟩
end Go.Proofs.Ytheoepbcejlncaa
