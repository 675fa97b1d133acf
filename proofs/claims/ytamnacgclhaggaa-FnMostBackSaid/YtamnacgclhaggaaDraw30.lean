/- The laws' drawer of threes: three numbers below m, in new memory; what it leaves of the reader. -/
import Derived.Test.YtamnacgclhaggaaDR
namespace Go.Proofs.Ytamnacgclhaggaa
open Go.ChangeShapes Go.WideShapes Go.ChangeAt Go.RowKit

/-- Three numbers below m. -/
def ThrD (m : Nat) (l : List Int) : Prop := ∃ x y z : Nat, l = [(x : Int), (y : Int), (z : Int)] ∧ x < m ∧ y < m ∧ z < m
def ThreeD (R n c p m : Nat) (A : Option Addr) (w : World) (e : Ending) (w' : World) : Prop := ∃ v l, e = .returned v ∧ Own w' w.heap.size v l ∧ (ThrD m l ∧ RdAt w' R A n c (p + 4)) ∧ w.grownBy w' (some R)
theorem three_out {w w4 : World} {R n c p m : Nat} {A : Option Addr} (hR : RdAt w4 R A n c (p + 3 + 1)) (hG : w.grownBy w4 (some R)) (hS : w4.heap.size = w.heap.size) (x y z : Nat) (hx : x < m) (hy : y < m) (hz : z < m) (_ : 0 < m) (_ : 0 < m) :
    ThreeD R n c p m A w (.returned (.slice (some ⟨w4.heap.size, 0, none⟩) 3 3)) (w4.alloc (.cells #[.int .i64 (x : Int), .int .i64 (y : Int), .int .i64 (z : Int)] 3)) :=
  ⟨_, [(x : Int), (y : Int), (z : Int)], rfl, World.ownsRow_lit w4 #[.int .i64 (x : Int), .int .i64 (y : Int), .int .i64 (z : Int)] 3 (by omega) (by unfold maxLen; omega) rfl,
    ⟨⟨x, y, z, rfl, hx, hy, hz⟩, hR.same (Below.heap_alloc w4 _ R hR.lt)⟩, grown_trans hG (World.grownBy_alloc w4 _ _)⟩
theorem tmod_nat (a m : Nat) : Int.tmod (a : Int) (m : Int) = ((a % m : Nat) : Int) := by rw [Int.tmod_eq_emod_of_nonneg (by omega)]; simp

set_option maxRecDepth 10000 in
set_option maxHeartbeats 1000000 in
theorem three91t_any (R n c H p m : Nat) (A : Option Addr) (w : World) (hR : RdAt w R A n c p) (hb : Byt w H A n) (hH : H ≤ R) (hp : p ≤ 90000) (hn : n ≤ 2000) (hm1 : 3 ≤ m) (hm : m ≤ 100) :
    Calls Try.prog 100 #[.pointer (some ⟨R, 0, none⟩), .int .i64 (m : Int)] w (ThreeD R n c p m A w) := by
  have e1 : ((m : Int) - 1) = (((m - 1 : Nat)) : Int) := by omega
  have hw1 : IntKind.i64.wrap ((m : Int) - 1) = (((m - 1 : Nat)) : Int) := by rw [IntWalk.i64_in _ (by omega)]; exact e1
  have HP := Lib.hid (fun V q k (h1 : RdAt V R A n c q) (h2 : Byt V H A n) (h3 : q ≤ 100000) (h4 : 1 ≤ k) (h5 : k ≤ 1000) => pick_any R n c H q k A V h1 h2 hH h3 hn h4 h5)
  have HR0 := Lib.hid hR
  have HB0 := Lib.hid hb
  clear hR hb e1
  go_enter Try.func100, Try.ntmps100
  go_wp2_with fail
  refine (HP.out w p m HR0.out HB0.out (by omega) (by omega) (by omega)).mono ?_
  rintro e w1 ⟨⟨x, hx, rfl⟩, h1, h2, h3⟩
  have HR1 := Lib.hid h1
  have HB1 := Lib.hid (HB0.out.grown h2 hH)
  have HG1 := Lib.hid h2
  have HS1 := Lib.hid h3
  clear h1 h2 h3 HR0 HB0
  obtain ⟨x1, hx1⟩ : ∃ x1 : Nat, x1 = x + 1 := ⟨_, rfl⟩
  have hw2 : IntKind.i64.wrap ((x : Int) + 1) = (x1 : Int) := by rw [IntWalk.i64_in _ (by omega)]; omega
  have lx1 : x1 ≤ 200 := by omega
  clear hx1
  go_wp2_with fail
  refine (HP.out w1 (p + 1) (m - 1) HR1.out HB1.out (by omega) (by omega) (by omega)).mono ?_
  rintro e w2 ⟨⟨a, ha, rfl⟩, h1, h2, h3⟩
  have HR2 := Lib.hid h1
  have HB2 := Lib.hid (HB1.out.grown h2 hH)
  have HG2 := Lib.hid (grown_trans HG1.out h2)
  have HS2 := Lib.hid (h3.trans HS1.out)
  clear h1 h2 h3 HR1 HB1 HG1 HS1
  obtain ⟨s1, hs1⟩ : ∃ s1 : Nat, s1 = x1 + a := ⟨_, rfl⟩
  have hw3 : IntKind.i64.wrap ((x1 : Int) + (a : Int)) = (s1 : Int) := by rw [IntWalk.i64_in _ (by omega)]; omega
  have ls1 : s1 ≤ 1000 := by omega
  clear hs1
  obtain ⟨y, hy⟩ : ∃ y : Nat, y = s1 % m := ⟨_, rfl⟩
  have t1 : Int.tmod (s1 : Int) (m : Int) = (y : Int) := by rw [tmod_nat, hy]
  have ly : y < m := by rw [hy]; exact Nat.mod_lt _ (by omega)
  clear hy
  go_wp2_with fail
  refine (HP.out w2 (p + 2) (m - 1) HR2.out HB2.out (by omega) (by omega) (by omega)).mono ?_
  rintro e w3 ⟨⟨b, hb, rfl⟩, h1, h2, h3⟩
  have HR3 := Lib.hid h1
  have HB3 := Lib.hid (HB2.out.grown h2 hH)
  have HG3 := Lib.hid (grown_trans HG2.out h2)
  have HS3 := Lib.hid (h3.trans HS2.out)
  clear h1 h2 h3 HR2 HB2 HG2 HS2
  obtain ⟨s2, hs2⟩ : ∃ s2 : Nat, s2 = x1 + b := ⟨_, rfl⟩
  have hw4 : IntKind.i64.wrap ((x1 : Int) + (b : Int)) = (s2 : Int) := by rw [IntWalk.i64_in _ (by omega)]; omega
  have ls2 : s2 ≤ 1000 := by omega
  clear hs2
  obtain ⟨z, hz⟩ : ∃ z : Nat, z = s2 % m := ⟨_, rfl⟩
  have t2 : Int.tmod (s2 : Int) (m : Int) = (z : Int) := by rw [tmod_nat, hz]
  have lz : z < m := by rw [hz]; exact Nat.mod_lt _ (by omega)
  clear hz
  by_cases hzy : z = y
  · have hb1 : ((z : Int) == (y : Int)) = true := by simp; omega
    obtain ⟨y1, hy1⟩ : ∃ y1 : Nat, y1 = y + 1 := ⟨_, rfl⟩
    have hw5 : IntKind.i64.wrap ((y : Int) + 1) = (y1 : Int) := by rw [IntWalk.i64_in _ (by omega)]; omega
    have ly1 : y1 ≤ 1000 := by omega
    clear hy1
    obtain ⟨z2, hz2⟩ : ∃ z2 : Nat, z2 = y1 % m := ⟨_, rfl⟩
    have t3 : Int.tmod (y1 : Int) (m : Int) = (z2 : Int) := by rw [tmod_nat, hz2]
    have lz2 : z2 < m := by rw [hz2]; exact Nat.mod_lt _ (by omega)
    clear hz2
    by_cases hzx : z2 = x
    · have hb2 : ((z2 : Int) == (x : Int)) = true := by simp; omega
      obtain ⟨z3, hz3⟩ : ∃ z3 : Nat, z3 = z2 + 1 := ⟨_, rfl⟩
      have hw6 : IntKind.i64.wrap ((z2 : Int) + 1) = (z3 : Int) := by rw [IntWalk.i64_in _ (by omega)]; omega
      have lz3 : z3 ≤ 1000 := by omega
      clear hz3
      obtain ⟨z4, hz4⟩ : ∃ z4 : Nat, z4 = z3 % m := ⟨_, rfl⟩
      have t4 : Int.tmod (z3 : Int) (m : Int) = (z4 : Int) := by rw [tmod_nat, hz4]
      have lz4 : z4 < m := by rw [hz4]; exact Nat.mod_lt _ (by omega)
      clear hz4
      clear hzy hzx
      go_wp2_with fail
      refine (HP.out w3 (p + 3) 60 HR3.out HB3.out (by omega) (by omega) (by omega)).mono ?_
      rintro e w4 ⟨⟨v, hv, rfl⟩, h1, h2, h3⟩
      have HR4 := Lib.hid h1
      have HB4 := Lib.hid (HB3.out.grown h2 hH)
      have HG4 := Lib.hid (grown_trans HG3.out h2)
      have HS4 := Lib.hid (h3.trans HS3.out)
      clear h1 h2 h3 HR3 HB3 HG3 HS3
      by_cases hv0 : v = 0
      · have hvb : ((v : Int) == 0) = true := by simp; omega
        clear hv0
        go_wp2
        go_ret
        exact three_out HR4.out HG4.out HS4.out x y x (by omega) (by omega) (by omega) (by omega) (by omega)
      · have hvb : ((v : Int) == 0) = false := by simp; omega
        clear hv0
        go_wp2
        go_ret
        exact three_out HR4.out HG4.out HS4.out x y z4 (by omega) (by omega) (by omega) (by omega) (by omega)
    · have hb2 : ((z2 : Int) == (x : Int)) = false := by simp; omega
      clear hzy hzx
      go_wp2_with fail
      refine (HP.out w3 (p + 3) 60 HR3.out HB3.out (by omega) (by omega) (by omega)).mono ?_
      rintro e w4 ⟨⟨v, hv, rfl⟩, h1, h2, h3⟩
      have HR4 := Lib.hid h1
      have HB4 := Lib.hid (HB3.out.grown h2 hH)
      have HG4 := Lib.hid (grown_trans HG3.out h2)
      have HS4 := Lib.hid (h3.trans HS3.out)
      clear h1 h2 h3 HR3 HB3 HG3 HS3
      by_cases hv0 : v = 0
      · have hvb : ((v : Int) == 0) = true := by simp; omega
        clear hv0
        go_wp2
        go_ret
        exact three_out HR4.out HG4.out HS4.out x y x (by omega) (by omega) (by omega) (by omega) (by omega)
      · have hvb : ((v : Int) == 0) = false := by simp; omega
        clear hv0
        go_wp2
        go_ret
        exact three_out HR4.out HG4.out HS4.out x y z2 (by omega) (by omega) (by omega) (by omega) (by omega)
  · have hb1 : ((z : Int) == (y : Int)) = false := by simp; omega
    clear hzy
    go_wp2_with fail
    refine (HP.out w3 (p + 3) 60 HR3.out HB3.out (by omega) (by omega) (by omega)).mono ?_
    rintro e w4 ⟨⟨v, hv, rfl⟩, h1, h2, h3⟩
    have HR4 := Lib.hid h1
    have HB4 := Lib.hid (HB3.out.grown h2 hH)
    have HG4 := Lib.hid (grown_trans HG3.out h2)
    have HS4 := Lib.hid (h3.trans HS3.out)
    clear h1 h2 h3 HR3 HB3 HG3 HS3
    by_cases hv0 : v = 0
    · have hvb : ((v : Int) == 0) = true := by simp; omega
      clear hv0
      go_wp2
      go_ret
      exact three_out HR4.out HG4.out HS4.out x y x (by omega) (by omega) (by omega) (by omega) (by omega)
    · have hvb : ((v : Int) == 0) = false := by simp; omega
      clear hv0
      go_wp2
      go_ret
      exact three_out HR4.out HG4.out HS4.out x y z (by omega) (by omega) (by omega) (by omega) (by omega)
end Go.Proofs.Ytamnacgclhaggaa
