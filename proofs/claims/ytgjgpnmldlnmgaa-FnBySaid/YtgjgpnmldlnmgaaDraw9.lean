/- The laws' drawer of a number of points and the number of a ring. -/
import Derived.Test.YtgjgpnmldlnmgaaDraw8
import Derived.Test.YtgjgpnmldlnmgaaNum
namespace Go.Proofs.Ytgjgpnmldlnmgaa
open Go.ChangeShapes Go.WideShapes Go.ChangeAt Go.RowKit

theorem fac_nat (m : Nat) : ∃ f : Nat, facN m = (f : Int) ∧ 1 ≤ f ∧ f ≤ 5040 := ⟨(facN m).toNat, by have := facN_bd m; omega, by have := facN_bd m; omega, by have := facN_bd m; omega⟩

set_option maxRecDepth 10000 in
set_option maxHeartbeats 4000000 in
theorem drawRingBy_any (n c H : Nat) (A : Option Addr) (w : World) (hb : Byt w H A n) (hH : H ≤ w.heap.size) (hnc : n ≤ c) (hc : c ≤ 9223372036854775807) :
    Calls Try.prog 47 #[.slice A n c] w fun e w' => ∃ x y : Int, e = .returned (.tuple #[.int .i64 x, .int .i64 y]) ∧ (-100 ≤ x ∧ x ≤ 100 ∧ -100000 ≤ y ∧ y ≤ 100000) ∧ Below w.heap.size w w' := by
  have HOP := Lib.hid (openS_any n c H A w hb hH hnc hc)
  clear hb
  go_enter Try.func47, Try.ntmps47
  go_wp2_with fail
  refine HOP.out.mono ?_
  rintro e w1 ⟨rfl, ⟨n', hn', h1, h2⟩, hb1⟩
  have HB1 := Lib.hid hb1
  have HY1 := Lib.hid h2
  have hlt := h1.lt
  have HSZ := Lib.hid (size91_any w.heap.size n' c H 0 7 A w1 h1 h2 hH (by omega) hn' (by omega) (by omega))
  generalize hR : w.heap.size = R at *
  have HRq := Lib.hid hR
  have HP := Lib.hid (fun (V : World) (q m : Nat) (h1 : RdAt V R A n' c q) (h2 : Byt V H A n') (h3 : q ≤ 100000) (h4 : 1 ≤ m) (h5 : m ≤ 1000) => pick_any R n' c H q m A V h1 h2 hH h3 hn' h4 h5)
  clear h1 h2 hb1 HOP hR
  go_wp2_with fail
  refine HSZ.out.mono ?_
  rintro e w2 ⟨⟨sz, hs3, hs7, rfl⟩, h1, hg, h3⟩
  have HB2 : Hid (Below R w w2.drew) := (below_grown HB1.out hg hlt).drew
  have hy2 := HY1.out.grown hg hH
  have HY2 : Hid (Byt w2.drew H A n') := hy2
  have HR2 : Hid (RdAt w2.drew R A n' c (0 + 1)) := h1
  have hlt2 : R < w2.drew.heap.size := h1.lt
  obtain ⟨f, hf, hf1, hf2⟩ := fac_nat (sz - 1)
  have HFC := Lib.hid (fun (V : World) => facS_nat (sz - 1) ((sz : Int) - 1) V (by omega) (by omega))
  rw [hf] at HFC
  have hwz : IntKind.i64.wrap ((sz : Int) - 1) = (sz : Int) - 1 := IntWalk.i64_in _ (by omega)
  clear h1 hg h3 HB1 HSZ HY1 hf hy2
  go_wp2_with fail
  go_region_held3 (fun _ => True) (exact trivial) (first
    | (go_at_call 66
       refine (HP.out _ _ 24 HR2.out HY2.out (by omega) (by omega) (by omega)).mono ?_
       rintro e w3 ⟨⟨v1, hv1, rfl⟩, h1, hg, h3⟩
       have HB3 := Lib.hid (below_grown HB2.out hg hlt2)
       have HY3 := Lib.hid (HY2.out.grown hg hH)
       have HR3 := Lib.hid h1
       have hlt3 := h1.lt
       obtain ⟨q1, k1, t1⟩ := tdiv_one v1 23 (by omega)
       have t1' : Int.tdiv (v1 : Int) 23 = (q1 : Int) := t1
       have x1 : IntKind.i64.wrap (q1 : Int) = (q1 : Int) := IntWalk.i64_in _ (by omega)
       have y1 : IntKind.i64.wrap ((q1 : Int) * 5) = (q1 : Int) * 5 := IntWalk.i64_in _ (by omega)
       have s1 : IntKind.i64.wrap ((sz : Int) + (q1 : Int) * 5) = (sz : Int) + (q1 : Int) * 5 := IntWalk.i64_in _ (by omega)
       clear h1 hg h3 HB2 HR2 HY2 hlt2 t1)
    | (go_at_call 66
       refine (HP.out _ _ 240 HR3.out HY3.out (by omega) (by omega) (by omega)).mono ?_
       rintro e w4 ⟨⟨v2, hv2, rfl⟩, h1, hg, h3⟩
       have HB4 := Lib.hid (below_grown HB3.out hg hlt3)
       have HY4 := Lib.hid (HY3.out.grown hg hH)
       have HR4 := Lib.hid h1
       have hlt4 := h1.lt
       clear h1 hg h3 HB3 HR3 HY3 hlt3)
    | (go_at_call 66
       refine (HP.out _ _ 3 HR4.out HY4.out (by omega) (by omega) (by omega)).mono ?_
       rintro e w5 ⟨⟨v3, hv3, rfl⟩, h1, hg, h3⟩
       have HB5 := Lib.hid (below_grown HB4.out hg hlt4)
       have HY5 := Lib.hid (HY4.out.grown hg hH)
       have HR5 := Lib.hid h1
       have hlt5 := h1.lt
       have y3 : IntKind.i64.wrap (240 * (v3 : Int)) = 240 * (v3 : Int) := IntWalk.i64_in _ (by omega)
       obtain ⟨s, hs⟩ : ∃ s : Nat, s = v2 + 240 * v3 := ⟨_, rfl⟩
       have s3 : IntKind.i64.wrap ((v2 : Int) + 240 * (v3 : Int)) = (s : Int) := by rw [IntWalk.i64_in _ (by omega)]; omega
       have hs9 : s ≤ 1000 := by omega
       clear h1 hg h3 HB4 HR4 HY4 hlt4 hs)
    | (go_at_call 85
       refine (HFC.out _).mono ?_
       rintro e w6 ⟨rfl, rfl⟩
       clear HFC)
    | (go_at_call 66
       refine (HP.out _ _ 12 HR5.out HY5.out (by omega) (by omega) (by omega)).mono ?_
       rintro e w7 ⟨⟨v4, hv4, rfl⟩, h1, hg, h3⟩
       have HB7 := Lib.hid (below_grown HB5.out hg hlt5)
       have HY7 := Lib.hid (HY5.out.grown hg hH)
       have HR7 := Lib.hid h1
       have hlt7 := h1.lt
       obtain ⟨q4, k4, t4⟩ := tdiv_one v4 11 (by omega)
       have t4' : Int.tdiv (v4 : Int) 11 = (q4 : Int) := t4
       have x4 : IntKind.i64.wrap (q4 : Int) = (q4 : Int) := IntWalk.i64_in _ (by omega)
       have y4 : IntKind.i64.wrap ((q4 : Int) * 2) = (q4 : Int) * 2 := IntWalk.i64_in _ (by omega)
       obtain ⟨g, hg4⟩ : ∃ g : Nat, g = f + q4 * 2 := ⟨_, rfl⟩
       have s4 : IntKind.i64.wrap ((f : Int) + (q4 : Int) * 2) = (g : Int) := by rw [IntWalk.i64_in _ (by omega)]; omega
       have g0 : (g : Int) ≠ 0 := by omega
       have g1 : ((g : Int) == 0) = false := by simp; omega
       have g2 : ¬ g = 0 := by omega
       obtain ⟨r, hr⟩ : ∃ r : Nat, r = s % g := ⟨_, rfl⟩
       have t5 : Int.tmod (s : Int) (g : Int) = (r : Int) := by rw [Int.tmod_eq_emod_of_nonneg (by omega), hr]; simp
       have hr9 : r ≤ 1000 := by have := Nat.mod_le s g; omega
       have x5 : IntKind.i64.wrap (r : Int) = (r : Int) := IntWalk.i64_in _ (by omega)
       clear h1 hg h3 HB5 HR5 HY5 hlt5 t4 hg4 hr)
    | (go_at_call 66
       refine (HP.out _ _ 24 HR7.out HY7.out (by omega) (by omega) (by omega)).mono ?_
       rintro e w8 ⟨⟨v5, hv5, rfl⟩, h1, hg, h3⟩
       have HB8 := Lib.hid (below_grown HB7.out hg hlt7)
       obtain ⟨q5, k5, t5⟩ := tdiv_one v5 23 (by omega)
       have t5' : Int.tdiv (v5 : Int) 23 = (q5 : Int) := t5
       have x5 : IntKind.i64.wrap (q5 : Int) = (q5 : Int) := IntWalk.i64_in _ (by omega)
       have y5 : IntKind.i64.wrap ((q5 : Int) * 720) = (q5 : Int) * 720 := IntWalk.i64_in _ (by omega)
       have s5 : IntKind.i64.wrap ((r : Int) - (q5 : Int) * 720) = (r : Int) - (q5 : Int) * 720 := IntWalk.i64_in _ (by omega)
       clear h1 hg h3 HB7 HR7 HY7 hlt7 t5))
  all_goals
    go_wp2
    go_ret2
    exact ⟨_, _, rfl, by omega, by rw [HRq.out]; exact HB8.out⟩
end Go.Proofs.Ytgjgpnmldlnmgaa
