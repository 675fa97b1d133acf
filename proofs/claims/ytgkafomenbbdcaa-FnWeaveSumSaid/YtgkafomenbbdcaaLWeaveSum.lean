/- Sums of woven rings are at least as many as the points of each part: the law FnWeaveSum. -/
import Derived.Test.YtgkafomenbbdcaaDraw14
import Derived.Test.YtgkafomenbbdcaaDraw6
import Derived.Test.YtgkafomenbbdcaaWvY0
namespace Go.Proofs.Ytgkafomenbbdcaa
open Go.ChangeShapes Go.WideShapes Go.ChangeAt Go.RowKit

theorem wsum_ge {m : Nat} {p q : List Int} (h : Wov m p q) (hm : 3 ≤ m ∧ m ≤ 6) (hp : 1 ≤ p.length) (hq : 1 ≤ q.length) : (p.length : Int) ≤ wsmR m p q ∧ (q.length : Int) ≤ wsmR m p q := by
  have hl := wov_len h
  unfold wsmR
  rw [if_pos h]
  generalize p.length = a at *
  generalize q.length = b at *
  obtain rfl : m = a + b := by omega
  have ha : a ≤ 5 := by omega
  have hb : b ≤ 5 := by omega
  have key : ∀ x : Fin 6, ∀ y : Fin 6, 1 ≤ x.val → 1 ≤ y.val → 3 ≤ x.val + y.val → x.val + y.val ≤ 6 → (x.val : Int) ≤ facN (((x.val + y.val : Nat) : Int) - 1).toNat / (facN (x.val - 1) * facN (y.val - 1)) ∧ (y.val : Int) ≤ facN (((x.val + y.val : Nat) : Int) - 1).toNat / (facN (x.val - 1) * facN (y.val - 1)) := by decide +kernel
  exact key ⟨a, by omega⟩ ⟨b, by omega⟩ hp hq hm.1 hm.2

set_option maxRecDepth 10000 in
set_option maxHeartbeats 4000000 in
theorem law_WeaveSum (a0 : Option Addr) (len0 cap0 : Nat) (z0 : List Int) (w : World) (w0 : IsRow .u8 w a0 len0 cap0 z0) :
    Calls Try.prog 14 #[.slice a0 len0 cap0] w fun e w' => e = .returned (.bool true) ∧ Below w.heap.size w w' := by
  obtain ⟨h, hlc, hcm⟩ := byt_of_row w0
  have HD := Lib.hid (drawWeaveSum len0 cap0 w.heap.size a0 w h (Nat.le_refl _) hlc hcm)
  clear w0 h
  by_cases hn : len0 ≤ 1048576
  rotate_left
  · go_enter Try.func14, Try.ntmps14
    go_wp2_with fail
    go_ret
    exact ⟨rfl, Below.refl _ _⟩
  go_enter Try.func14, Try.ntmps14
  go_wp2_with fail
  refine HD.out.mono ?_
  rintro e w1 ⟨v, v', m, p, q, rfl, ⟨A1, n1, c1, rfl, hr1⟩, ⟨A9, n9, c9, rfl, hr9⟩, hm, hb⟩
  have HB := Lib.hid hb
  have HR1 := Lib.hid hr1
  have HR9 := Lib.hid hr9
  clear hb hr1 hr9 HD
  have HC := Lib.hid (wsI_any A1 n1 c1 A9 n9 c9 w1.heap.size m p q w1 HR1.out.rd HR9.out.rd (Nat.le_refl _) HR1.out.big HR9.out.big HR1.out.2.1 HR1.out.2.2.1 HR9.out.2.1 HR9.out.2.2.1)
  go_wp2_with fail
  refine HC.out.mono ?_
  rintro e w2 ⟨rfl, hb⟩
  replace HB := Lib.hid (bl_step HB.out hb)
  replace HR1 := Lib.hid (HR1.out.step hb)
  replace HR9 := Lib.hid (HR9.out.step hb)
  clear hb HC
  have HC := Lib.hid (wsS_any A1 n1 c1 A9 n9 c9 w2.heap.size m p q w2 HR1.out.rd HR9.out.rd (Nat.le_refl _) HR1.out.big HR9.out.big)
  go_wp2_with fail
  refine HC.out.mono ?_
  rintro e w3 ⟨rfl, hb⟩
  replace HB := Lib.hid (bl_step HB.out hb)
  replace HR1 := Lib.hid (HR1.out.step hb)
  replace HR9 := Lib.hid (HR9.out.step hb)
  clear hb HC
  have e1 := HR1.out.len
  have e9 := HR9.out.len
  have k1 := HR1.out.2.2.2
  have k9 := HR9.out.2.2.2
  by_cases hk : Wov m p q
  rotate_left
  · rw [wov_no hk]
    generalize wsmR m p q = S
    clear HR1 HR9 hk e1 e9
    have hS : (S != S) = false := by simp
    have hS2 : (S == S) = true := by simp
    go_wp2
    go_ret
    exact ⟨rfl, HB.out⟩
  rw [wov_yes hk]
  have hg := wsum_ge hk hm hk.1.len.1 hk.2.1.len.1
  rw [e1, e9] at hg
  generalize wsmR m p q = S at *
  obtain ⟨g1, g9⟩ := hg
  clear HR1 HR9 hk e1 e9
  have hS : (S != S) = false := by simp
  have hmx : max (n1 : Int) (n9 : Int) ≤ S := by omega
  have hmd : decide (max (n1 : Int) (n9 : Int) ≤ S) = true := by simpa using hmx
  go_wp2

  go_ret
  exact ⟨rfl, HB.out⟩
end Go.Proofs.Ytgkafomenbbdcaa
