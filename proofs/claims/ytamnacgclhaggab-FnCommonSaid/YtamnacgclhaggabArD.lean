/- ArcCommon of the program. -/
import Derived.Test.YtamnacgclhaggabArC
namespace Go.Proofs.Ytamnacgclhaggab
open Go.ChangeShapes Go.WideShapes Go.ChangeAt Go.RowKit

attribute [local go_sem ↓] ldR_fold stR_fold in
set_option maxHeartbeats 1000000 in
theorem acI_any (A0 : Option Addr) (n0 c0 : Nat) (A1 : Option Addr) (n1 c1 H : Nat) (l0 l1 : List Int) (w : World) (h0 : Rd w H A0 n0 l0) (h1 : Rd w H A1 n1 l1) (hH : H ≤ w.heap.size) (hn0 : n0 ≤ 1048576) (hn1 : n1 ≤ 1048576) (hnc0 : n0 ≤ c0) (hcm0 : c0 ≤ 9223372036854775807) (hnc1 : n1 ≤ c1) (hcm1 : c1 ≤ 9223372036854775807) :
    Calls Try.prog 46 #[.slice A0 n0 c0, .slice A1 n1 c1] w fun e w' => ∃ v, e = .returned (.tuple #[v, .bool (twoB l0 l1)]) ∧ OwnG w' w.heap.size v (comR l0 l1) ∧ Below w.heap.size w w' := by
  have HR := Lib.hid (two_any A0 n0 c0 A1 n1 c1 H l0 l1 w h0 h1 hH hn0 hn1 hnc0 hcm0 hnc1 hcm1)
  have H70 := ringP_length l0
  have H71 := ringP_length l1
  clear h0 h1
  by_cases h2 : TwoR l0 l1
  rotate_left
  · rw [comR, if_neg h2, twoNo h2]
    rw [twoNo h2] at HR
    generalize ringP l0 = P0 at *
    generalize ringP l1 = P1 at *
    clear h2
    go_enter Try.func46, Try.ntmps46
    go_wp2_with fail
    refine HR.out.mono ?_
    rintro e W1 ⟨rfl, hb1⟩
    obtain ⟨V1, V, r1, r2, a1, a2, hb2, hs2⟩ := new_two W1 P0 P1 H70 H71
    have HB := Lib.hid (hb1.trans (hb2.mono hb1.size))
    clear hb1 hb2 a1 a2 hs2
    go_wp2_with fail
    go_ret2
    exact ⟨.slice none 0 0, rfl, .inl ⟨rfl, rfl⟩, HB.out⟩
  · have HD := Lib.hid (fun V => shared_any l0 l1 V h2.1 h2.2.1 h2.2.2)
    have e0 : ringP l0 = padR l0 := by rw [ringP, if_pos h2.1]
    have e1 : ringP l1 = padR l1 := by rw [ringP, if_pos h2.2.1]
    rw [comR, if_pos h2, twoYes h2]
    rw [twoYes h2] at HR
    rw [e0] at HR H70
    rw [e1] at HR H71
    unfold agp at HD
    clear h2 e0 e1
    generalize padR l0 = P0 at *
    generalize padR l1 = P1 at *
    generalize comA l0 l1 = r at *
    obtain ⟨a0, a1, a2, a3, a4, a5, a6, rfl⟩ := seven H70
    obtain ⟨b0, b1, b2, b3, b4, b5, b6, rfl⟩ := seven H71
    simp only [ints, List.map_cons, List.map_nil] at HD HR
    go_enter Try.func46, Try.ntmps46
    go_wp2_with fail
    refine HR.out.mono ?_
    rintro e W1 ⟨rfl, hb1⟩
    obtain ⟨V1, V, r1, r2, x1, x2, hb2, hs2⟩ := new_two W1 [a0, a1, a2, a3, a4, a5, a6] [b0, b1, b2, b3, b4, b5, b6] rfl rfl
    have q1 := ldR_run x1 rfl
    have q2 := ldR_run x2 rfl
    have HB := Lib.hid (hb1.trans (hb2.mono hb1.size))
    simp only [ints, List.map_cons, List.map_nil] at r1 r2 q1 q2
    clear hb1 hb2 x1 x2 hs2
    go_wp2_with fail
    refine (HD.out V).mono ?_
    rintro e w4 ⟨v4, rfl, ho4, hb4⟩
    have HB4 := Lib.hid (HB.out.trans (hb4.mono HB.out.size))
    have HO4 := Lib.hid (own_less ho4 HB.out.size)
    obtain ⟨A4, c4, ev⟩ := ho4.slice
    subst ev
    clear hb4 ho4
    go_wp2
    go_ret2
    exact ⟨_, rfl, HO4.out.gen, HB4.out⟩
end Go.Proofs.Ytamnacgclhaggab
