/- The laws' drawer of a number and a pattern, mostly of four points. -/
import Derived.Test.YtmfilnpbkonfaaaDoorDA
import Derived.Test.YtmfilnpbkonfaaaDoorMA
import Derived.Test.YtmfilnpbkonfaaaDoorDraw8
namespace Go.Proofs.YtmfilnpbkonfaaaDoor
open Go.ChangeShapes Go.WideShapes Go.ChangeAt Go.RowKit

set_option maxRecDepth 10000 in
set_option maxHeartbeats 2000000 in
theorem free92_any (n c H : Nat) (A : Option Addr) (w : World) (hb : Byt w H A n) (hH : H ≤ w.heap.size) (hnc : n ≤ c) (hc : c ≤ 9223372036854775807) :
    Calls Tryd.prog 22 #[.slice A n c] w fun e w' => ∃ x l v, e = .returned (.tuple #[.int .i64 x, v]) ∧ NewR w' v l ∧ (-100 ≤ x ∧ x ≤ 100) ∧ Below w.heap.size w w' := by
  have HOP := Lib.hid (openS_any n c H A w hb hH hnc hc)
  clear hb
  go_enter Tryd.func22, Tryd.ntmps22
  go_wp2_with fail
  refine HOP.out.mono ?_
  rintro e w1 ⟨rfl, ⟨n', hn', h1, h2⟩, hb1⟩
  have HOF := Lib.hid (of91_any w.heap.size n' c H 0 4 A w1 h1 h2 hH (by omega) hn' (by omega) (by omega))
  rw [show ((4 : Nat) : Int) = 4 from rfl] at HOF
  have HB1 := Lib.hid hb1
  have HY1 := Lib.hid h2
  have hlt := h1.lt
  generalize hR : w.heap.size = R at *
  have HRq := Lib.hid hR
  have HP : Hid (∀ (V : World) (q m : Nat) (M : Int), M = (m : Int) → RdAt V R A n' c q → Byt V H A n' → q ≤ 100000 → 1 ≤ m → m ≤ 1000 → Calls Tryd.prog 45 #[.pointer (some ⟨R, 0, none⟩), .int .i64 M] V fun e w' => (∃ k : Nat, k < m ∧ e = .returned (.int .i64 (k : Int))) ∧ RdAt w' R A n' c (q + 1) ∧ V.grownBy w' (some R) ∧ w'.heap.size = V.heap.size) := fun V q m M hM h1 h2 h3 h4 h5 => by
    subst hM
    exact pick_any R n' c H q m A V h1 h2 hH h3 hn' h4 h5
  have HRG := Lib.hid (fun (V : World) (q : Nat) (h1 : RdAt V R A n' c q) (h2 : Byt V H A n') (h3 : q ≤ 80000) => ring91_any R n' c H q 5 A V h1 h2 hH h3 hn' (by omega) (by omega))
  rw [show ((5 : Nat) : Int) = 5 from rfl] at HRG
  clear h1 h2 hb1 HOP hR
  go_wp2_with fail
  refine HOF.out.mono ?_
  rintro e w2 ⟨v, l, q, rfl, ho, ⟨hl, h1, hq⟩, hg⟩
  have HB2 := Lib.hid (below_grown HB1.out hg hlt)
  have HY2 := Lib.hid (HY1.out.grown hg hH)
  have HV2 := Lib.hid ho.rowV5
  have HR2 := Lib.hid h1
  have hlt2 := h1.lt
  obtain ⟨Av, cv, ev⟩ := ho.slice
  subst ev
  rw [hl] at HV2 ⊢
  have HL4 := Lib.hid hl
  have hltV : R < w1.heap.size := hlt
  clear ho h1 hg HB1 HY1 HOF hl
  go_wp2_with fail
  refine (HP.out _ _ 6 _ rfl HR2.out HY2.out (by omega) (by omega) (by omega)).mono ?_
  rintro e w3 ⟨⟨v0, hv0, rfl⟩, h1, hg, h3⟩
  have HB3 := Lib.hid (below_grown HB2.out hg hlt2)
  have HY3 := Lib.hid (HY2.out.grown hg hH)
  have HV3 := Lib.hid (HV2.out.grown5 hg hltV)
  have HR3 := Lib.hid h1
  have hlt3 := h1.lt
  clear h1 hg h3 HB2 HY2 HV2 HR2 hlt2
  by_cases e0 : v0 = 0
  rotate_left
  · have hb0 : ((v0 : Int) == 0) = false := by simp; omega
    clear e0 hv0 HRG
    go_wp2_with (first
      | (go_at_call 45
         refine (HP.out _ _ 4 _ rfl HR3.out HY3.out (by omega) (by omega) (by omega)).mono ?_
         rintro e wa ⟨⟨v1, hv1, rfl⟩, h1, hg, h3⟩
         have HBa := Lib.hid (below_grown HB3.out hg hlt3)
         have HYa := Lib.hid (HY3.out.grown hg hH)
         have HVa := Lib.hid (HV3.out.grown5 hg hltV)
         have HRa := Lib.hid h1
         have hlta := h1.lt
         have s1 : IntKind.i64.wrap (3 + (v1 : Int)) = 3 + (v1 : Int) := IntWalk.i64_in _ (by omega)
         clear h1 hg h3 HB3 HR3 HY3 HV3 hlt3)
      | (go_at_call 45
         refine (HP.out _ _ 12 _ rfl HRa.out HYa.out (by omega) (by omega) (by omega)).mono ?_
         rintro e wb ⟨⟨v2, hv2, rfl⟩, h1, hg, h3⟩
         have HBb := Lib.hid (below_grown HBa.out hg hlta)
         have HYb := Lib.hid (HYa.out.grown hg hH)
         have HVb := Lib.hid (HVa.out.grown5 hg hltV)
         have HRb := Lib.hid h1
         have hltb := h1.lt
         obtain ⟨q2, k2, t2⟩ := tdiv_one v2 11 (by omega)
         have t2' : Int.tdiv (v2 : Int) 11 = (q2 : Int) := t2
         have x2 : IntKind.i64.wrap (q2 : Int) = (q2 : Int) := IntWalk.i64_in _ (by omega)
         have s2 : IntKind.i64.wrap (3 + (v1 : Int) + (q2 : Int)) = 3 + (v1 : Int) + (q2 : Int) := IntWalk.i64_in _ (by omega)
         clear h1 hg h3 HBa HRa HYa HVa hlta t2)
      | (go_at_call 45
         refine (HP.out _ _ 24 _ rfl HRb.out HYb.out (by omega) (by omega) (by omega)).mono ?_
         rintro e wc ⟨⟨v3, hv3, rfl⟩, h1, hg, h3⟩
         have HBc := Lib.hid (below_grown HBb.out hg hltb)
         have HYc := Lib.hid (HYb.out.grown hg hH)
         have HVc := Lib.hid (HVb.out.grown5 hg hltV)
         have HRc := Lib.hid h1
         have hltc := h1.lt
         obtain ⟨q3, k3, t3⟩ := tdiv_one v3 23 (by omega)
         have t3' : Int.tdiv (v3 : Int) 23 = (q3 : Int) := t3
         have x3 : IntKind.i64.wrap (q3 : Int) = (q3 : Int) := IntWalk.i64_in _ (by omega)
         have s3 : IntKind.i64.wrap (3 + (v1 : Int) + (q2 : Int) + (q3 : Int)) = 3 + (v1 : Int) + (q2 : Int) + (q3 : Int) := IntWalk.i64_in _ (by omega)
         clear h1 hg h3 HBb HRb HYb HVb hltb t3)
      | (go_at_call 45
         refine (HP.out _ _ 24 _ rfl HRc.out HYc.out (by omega) (by omega) (by omega)).mono ?_
         rintro e wd ⟨⟨v4, hv4, rfl⟩, h1, hg, h3⟩
         have HBd := Lib.hid (below_grown HBc.out hg hltc)
         have HVd := Lib.hid (HVc.out.grown5 hg hltV)
         obtain ⟨q4, k4, t4⟩ := tdiv_one v4 23 (by omega)
         have t4' : Int.tdiv (v4 : Int) 23 = (q4 : Int) := t4
         have x4 : IntKind.i64.wrap (q4 : Int) = (q4 : Int) := IntWalk.i64_in _ (by omega)
         have y4 : IntKind.i64.wrap ((q4 : Int) * 4) = (q4 : Int) * 4 := IntWalk.i64_in _ (by omega)
         have s4 : IntKind.i64.wrap (3 + (v1 : Int) + (q2 : Int) + (q3 : Int) - (q4 : Int) * 4) = 3 + (v1 : Int) + (q2 : Int) + (q3 : Int) - (q4 : Int) * 4 := IntWalk.i64_in _ (by omega)
         clear h1 hg h3 HBc HRc HYc HVc hltc t4))
    go_ret2
    exact ⟨_, l, _, rfl, HVd.out.newR (by rw [HL4.out]; omega), by omega, by rw [HRq.out]; exact HBd.out⟩
  · subst e0
    have HRG3 := Lib.hid (HRG.out w3 _ HR3.out HY3.out (by omega))
    clear hv0 HRG HV3 HL4 hltV
    go_wp2_with fail
    refine HRG3.out.mono ?_
    rintro e w4 ⟨v4, l4, q4, rfl, hv4, ⟨hl4, h1, hq4⟩, hg⟩
    have HB4 := Lib.hid (below_grown HB3.out hg hlt3)
    have HY4 := Lib.hid (HY3.out.grown hg hH)
    have HV4 := Lib.hid hv4
    have HR4 := Lib.hid h1
    have hlt4 := h1.lt
    have hltV := hlt3
    obtain ⟨A4, c4, ev, _⟩ := hv4.2
    subst ev
    obtain ⟨z4, hz4⟩ : ∃ z4, z4 = l4.length := ⟨_, rfl⟩
    rw [← hz4] at hl4 hq4 HV4 ⊢
    have HZ4 := Lib.hid hz4
    clear hv4 h1 hg HB3 HY3 HR3 hlt3 HRG3 hz4
    go_wp2_with (first
      | (go_at_call 45
         refine (HP.out _ _ 4 _ rfl HR4.out HY4.out (by omega) (by omega) (by omega)).mono ?_
         rintro e wa ⟨⟨v1, hv1, rfl⟩, h1, hg, h3⟩
         have HBa := Lib.hid (below_grown HB4.out hg hlt4)
         have HYa := Lib.hid (HY4.out.grown hg hH)
         have HVa := Lib.hid (HV4.out.grown5 hg hltV)
         have HRa := Lib.hid h1
         have hlta := h1.lt
         have s1 : IntKind.i64.wrap (3 + (v1 : Int)) = 3 + (v1 : Int) := IntWalk.i64_in _ (by omega)
         clear h1 hg h3 HB4 HR4 HY4 HV4 hlt4)
      | (go_at_call 45
         refine (HP.out _ _ 12 _ rfl HRa.out HYa.out (by omega) (by omega) (by omega)).mono ?_
         rintro e wb ⟨⟨v2, hv2, rfl⟩, h1, hg, h3⟩
         have HBb := Lib.hid (below_grown HBa.out hg hlta)
         have HYb := Lib.hid (HYa.out.grown hg hH)
         have HVb := Lib.hid (HVa.out.grown5 hg hltV)
         have HRb := Lib.hid h1
         have hltb := h1.lt
         obtain ⟨q2, k2, t2⟩ := tdiv_one v2 11 (by omega)
         have t2' : Int.tdiv (v2 : Int) 11 = (q2 : Int) := t2
         have x2 : IntKind.i64.wrap (q2 : Int) = (q2 : Int) := IntWalk.i64_in _ (by omega)
         have s2 : IntKind.i64.wrap (3 + (v1 : Int) + (q2 : Int)) = 3 + (v1 : Int) + (q2 : Int) := IntWalk.i64_in _ (by omega)
         clear h1 hg h3 HBa HRa HYa HVa hlta t2)
      | (go_at_call 45
         refine (HP.out _ _ 24 _ rfl HRb.out HYb.out (by omega) (by omega) (by omega)).mono ?_
         rintro e wc ⟨⟨v3, hv3, rfl⟩, h1, hg, h3⟩
         have HBc := Lib.hid (below_grown HBb.out hg hltb)
         have HYc := Lib.hid (HYb.out.grown hg hH)
         have HVc := Lib.hid (HVb.out.grown5 hg hltV)
         have HRc := Lib.hid h1
         have hltc := h1.lt
         obtain ⟨q3, k3, t3⟩ := tdiv_one v3 23 (by omega)
         have t3' : Int.tdiv (v3 : Int) 23 = (q3 : Int) := t3
         have x3 : IntKind.i64.wrap (q3 : Int) = (q3 : Int) := IntWalk.i64_in _ (by omega)
         have s3 : IntKind.i64.wrap (3 + (v1 : Int) + (q2 : Int) + (q3 : Int)) = 3 + (v1 : Int) + (q2 : Int) + (q3 : Int) := IntWalk.i64_in _ (by omega)
         clear h1 hg h3 HBb HRb HYb HVb hltb t3)
      | (go_at_call 45
         refine (HP.out _ _ 24 _ rfl HRc.out HYc.out (by omega) (by omega) (by omega)).mono ?_
         rintro e wd ⟨⟨v9, hv9, rfl⟩, h1, hg, h3⟩
         have HBd := Lib.hid (below_grown HBc.out hg hltc)
         have HVd := Lib.hid (HVc.out.grown5 hg hltV)
         obtain ⟨q5, k5, t4⟩ := tdiv_one v9 23 (by omega)
         have t4' : Int.tdiv (v9 : Int) 23 = (q5 : Int) := t4
         have x4 : IntKind.i64.wrap (q5 : Int) = (q5 : Int) := IntWalk.i64_in _ (by omega)
         have y4 : IntKind.i64.wrap ((q5 : Int) * 4) = (q5 : Int) * 4 := IntWalk.i64_in _ (by omega)
         have s4 : IntKind.i64.wrap (3 + (v1 : Int) + (q2 : Int) + (q3 : Int) - (q5 : Int) * 4) = 3 + (v1 : Int) + (q2 : Int) + (q3 : Int) - (q5 : Int) * 4 := IntWalk.i64_in _ (by omega)
         clear h1 hg h3 HBc HRc HYc HVc hltc t4))
    go_ret2
    exact ⟨_, l4, _, rfl, HVd.out.newR (by rw [← HZ4.out]; exact hl4), by omega, by rw [HRq.out]; exact HBd.out⟩
theorem drawPatternFree_any (n c H : Nat) (A : Option Addr) (w : World) (hb : Byt w H A n) (hH : H ≤ w.heap.size) (hnc : n ≤ c) (hc : c ≤ 9223372036854775807) :
    Calls Tryd.prog 7 #[.slice A n c] w fun e w' => ∃ x l v, e = .returned (.tuple #[.int .i64 x, v]) ∧ NewR w' v l ∧ (-100 ≤ x ∧ x ≤ 100) ∧ Below w.heap.size w w' := by
  have HD := Lib.hid (free92_any n c H A w hb hH hnc hc)
  clear hb
  go_enter Tryd.func7, Tryd.ntmps7
  go_wp2_with fail
  refine HD.out.mono ?_
  rintro e w1 ⟨x, l, v, rfl, ⟨A1, n1, c1, rfl, hr1⟩, hl, hb⟩
  have HR := Lib.hid hr1
  clear hr1
  go_wp2
  go_ret2
  exact ⟨x, l, _, rfl, ⟨A1, n1, c1, rfl, HR.out⟩, hl, hb⟩
end Go.Proofs.YtmfilnpbkonfaaaDoor
