/- The laws' drawer of a ring and a pattern. -/
import Derived.Test.YtmfilnpbkonfaabDoorDA
import Derived.Test.YtmfilnpbkonfaabDoorMA
import Derived.Test.YtmfilnpbkonfaabDoorDraw6
namespace Go.Proofs.YtmfilnpbkonfaabDoor
open Go.ChangeShapes Go.WideShapes Go.ChangeAt Go.RowKit

set_option maxRecDepth 10000 in
set_option maxHeartbeats 2000000 in
theorem pat92_any (R n c H p : Nat) (A : Option Addr) (w : World) (hR : RdAt w R A n c p) (hb : Byt w H A n) (hH : H ≤ R) (hp : p ≤ 60000) (hn : n ≤ 2000) :
    Calls Tryd.prog 27 #[.pointer (some ⟨R, 0, none⟩)] w fun e w' => ∃ v l v' l' q, e = .returned (.tuple #[v, v']) ∧ RowV w' w.heap.size v l ∧ RowV w' w.heap.size v' l' ∧ (l.length ≤ 7 ∧ l'.length ≤ 7 ∧ 2 ≤ l.length ∧ RdAt w' R A n c q ∧ q ≤ p + 70) ∧ w.grownBy w' (some R) := by
  have HP : Hid (∀ (V : World) (q m : Nat) (M : Int), M = (m : Int) → RdAt V R A n c q → Byt V H A n → q ≤ 100000 → 1 ≤ m → m ≤ 1000 → Calls Tryd.prog 28 #[.pointer (some ⟨R, 0, none⟩), .int .i64 M] V fun e w' => (∃ k : Nat, k < m ∧ e = .returned (.int .i64 (k : Int))) ∧ RdAt w' R A n c (q + 1) ∧ V.grownBy w' (some R) ∧ w'.heap.size = V.heap.size) := fun V q m M hM h1 h2 h3 h4 h5 => by
    subst hM
    exact pick_any R n c H q m A V h1 h2 hH h3 hn h4 h5
  have HRG : Hid (∀ (V : World) (q m : Nat) (M : Int), M = (m : Int) → RdAt V R A n c q → Byt V H A n → q ≤ 80000 → 3 ≤ m → m ≤ 7 → Calls Tryd.prog 52 #[.pointer (some ⟨R, 0, none⟩), .int .i64 M] V fun e w' => ∃ v l q', e = .returned v ∧ RowV w' V.heap.size v l ∧ (l.length ≤ 7 ∧ RdAt w' R A n c q' ∧ (q' ≤ q + 20 ∧ 2 ≤ l.length)) ∧ V.grownBy w' (some R)) := fun V q m M hM h1 h2 h3 h4 h5 => by
    subst hM
    exact ring91_any R n c H q m A V h1 h2 hH h3 hn h4 h5
  have HOF : Hid (∀ (V : World) (q m : Nat) (M : Int), M = (m : Int) → RdAt V R A n c q → Byt V H A n → q ≤ 90000 → 1 ≤ m → m ≤ 7 → Calls Tryd.prog 53 #[.pointer (some ⟨R, 0, none⟩), .int .i64 M] V fun e w' => ∃ v l q', e = .returned v ∧ Own w' V.heap.size v l ∧ (l.length = m ∧ RdAt w' R A n c q' ∧ q' ≤ q + 10) ∧ V.grownBy w' (some R)) := fun V q m M hM h1 h2 h3 h4 h5 => by
    subst hM
    exact of91_any R n c H q m A V h1 h2 hH h3 hn h4 h5
  have hRw := hR.lt
  have HR0 := Lib.hid hR
  have HY0 := Lib.hid hb
  clear hR hb
  go_enter Tryd.func27, Tryd.ntmps27
  go_wp2_with fail
  refine (HRG.out w p 7 _ rfl HR0.out HY0.out (by omega) (by omega) (by omega)).mono ?_
  rintro e w1 ⟨v1, l1, q1, rfl, hv1, ⟨hl1, h1, hq1⟩, hg⟩
  have HG1 := Lib.hid hg
  have HY1 := Lib.hid (HY0.out.grown hg hH)
  have HV1 := Lib.hid hv1
  have HR1 := Lib.hid h1
  have hlt1 := h1.lt
  obtain ⟨A1, c1, ev, hzc1, hcm1⟩ := hv1.2
  subst ev
  have HSZ : Hid (w.heap.size ≤ w1.heap.size) := hg.size
  clear hv1 h1 hg HR0 HY0
  go_wp2_with fail
  refine (HRG.out w1 q1 5 _ rfl HR1.out HY1.out (by omega) (by omega) (by omega)).mono ?_
  rintro e w2 ⟨v2, l2, q2, rfl, hv2, ⟨hl2, h1, hq2⟩, hg⟩
  have HG2 := Lib.hid (grown_trans HG1.out hg)
  have HY2 := Lib.hid (HY1.out.grown hg hH)
  have HV12 := Lib.hid (HV1.out.grown5 hg hRw)
  have HV2 := Lib.hid hv2
  have HR2 := Lib.hid h1
  have hlt2 := h1.lt
  obtain ⟨A2, c2, ev, hzc2, hcm2⟩ := hv2.2
  subst ev
  clear hv2 h1 hg HR1 HY1 HG1 HV1
  have HRI := Lib.hid (ringS_any A1 l1.length c1 w2.heap.size l1 w2 HV12.out.1.rd.2 (by omega))
  have HP2 := Lib.hid (HP.out w2 q2 6 6 rfl HR2.out HY2.out (by omega) (by omega) (by omega))
  have HO2 := Lib.hid (fun (V : World) (q : Nat) (h1 : RdAt V R A n c q) (h2 : Byt V H A n) (h3 : q ≤ 90000) => HOF.out V q 3 3 rfl h1 h2 h3 (by omega) (by omega))
  obtain ⟨z1, hz1⟩ : ∃ z, z = l1.length := ⟨_, rfl⟩
  obtain ⟨z2, hz2⟩ : ∃ z, z = l2.length := ⟨_, rfl⟩
  rw [← hz1] at HRI HV12 hl1 hq1 hzc1 ⊢
  rw [← hz2] at HV2 hl2 hq2 hzc2 ⊢
  have HZ1 := Lib.hid hz1
  have HZ2 := Lib.hid hz2
  clear hz1 hz2 HP HRG HOF
  have fin : ∀ (W : World) (q : Nat), Hid (w.grownBy W (some R)) → Hid (RdAt W R A n c q) → q ≤ p + 70 → Hid (RowV W w.heap.size (.slice A1 z1 c1) l1) → Hid (RowV W w1.heap.size (.slice A2 z2 c2) l2) → ∃ v l v' l' q', Ending.returned (.tuple #[.slice A1 z1 c1, .slice A2 z2 c2]) = .returned (.tuple #[v, v']) ∧ RowV W w.heap.size v l ∧ RowV W w.heap.size v' l' ∧ (l.length ≤ 7 ∧ l'.length ≤ 7 ∧ 2 ≤ l.length ∧ RdAt W R A n c q' ∧ q' ≤ p + 70) ∧ w.grownBy W (some R) := fun W q hG hR hq hV1 hV2 =>
    ⟨_, l1, _, l2, q, rfl, hV1.out, hV2.out.less HSZ.out, ⟨by rw [← HZ1.out]; exact hl1, by rw [← HZ2.out]; exact hl2, by rw [← HZ1.out]; exact hq1.2, hR.out, hq⟩, hG.out⟩
  have FIN := Lib.hid fin
  clear fin
  cases hrb : ringB l1 with
  | false =>
    rw [hrb] at HRI
    go_wp2_with (go_at_call 45; refine HRI.out.mono ?_; rintro e w' ⟨rfl, rfl⟩)
    go_ret2
    exact FIN.out _ q2 HG2 HR2 (by omega) HV12 HV2
  | true =>
    rw [hrb] at HRI
    by_cases hlt : z1 < z2
    rotate_left
    · have hc : ¬ (z1 : Int) < (z2 : Int) := by omega
      go_wp2_with (go_at_call 45; refine HRI.out.mono ?_; rintro e w' ⟨rfl, rfl⟩)
      go_ret2
      exact FIN.out _ q2 HG2 HR2 (by omega) HV12 HV2
    have hc : (z1 : Int) < (z2 : Int) := by omega
    go_wp2_with (go_at_call 45; refine HRI.out.mono ?_; rintro e w' ⟨rfl, rfl⟩)
    refine HP2.out.mono ?_
    rintro e w3 ⟨⟨v3, hv3, rfl⟩, h1, hg, h3⟩
    have HG3 := Lib.hid (grown_trans HG2.out hg)
    have HY3 := Lib.hid (HY2.out.grown hg hH)
    have HV13 := Lib.hid (HV12.out.grown5 hg hRw)
    have HV23 := Lib.hid (HV2.out.grown5 hg hlt1)
    have HR3 := Lib.hid h1
    have hlt3 := h1.lt
    clear h1 hg h3 HP2 HY2 HV2 HV12 HR2 HG2
    by_cases h0 : 0 < v3
    rotate_left
    · have hc3 : ¬ (0 : Int) < (v3 : Int) := by omega
      have hv0 : v3 = 0 := by omega
      subst hv0
      go_wp2
      go_ret2
      exact FIN.out _ _ HG3 HR3 (by omega) HV13 HV23
    have hc3 : (0 : Int) < (v3 : Int) := by omega
    have HO3 := Lib.hid (HO2.out w3 _ HR3.out HY3.out (by omega))
    clear HV23 FIN HO2
    go_wp2_with fail
    refine HO3.out.mono ?_
    rintro e w4 ⟨v4, l4, q4, rfl, ho4, ⟨hl4, h1, hq4⟩, hg⟩
    have HG4 := Lib.hid (grown_trans HG3.out hg)
    have HV14 := Lib.hid (HV13.out.grown5 hg hRw)
    have HV4 := Lib.hid ho4.rowV5
    have HR4 := Lib.hid h1
    obtain ⟨A4, c4, ev⟩ := ho4.slice
    subst ev
    have HL4 := Lib.hid hl4
    rw [hl4] at HV4 ⊢
    clear ho4 h1 hg HO3 HY3 HV13 HR3 hl4
    go_wp2
    go_ret2
    exact ⟨_, l1, _, l4, q4, rfl, HV14.out, HV4.out.less HG3.out.size, ⟨by rw [← HZ1.out]; exact hl1, by rw [HL4.out]; omega, by rw [← HZ1.out]; exact hq1.2, HR4.out, by omega⟩, HG4.out⟩

theorem drawPatternFirst_any (n c H : Nat) (A : Option Addr) (w : World) (hb : Byt w H A n) (hH : H ≤ w.heap.size) (hnc : n ≤ c) (hc : c ≤ 9223372036854775807) :
    Calls Tryd.prog 13 #[.slice A n c] w fun e w' => ∃ v l v' l', e = .returned (.tuple #[v, v']) ∧ NewR w' v l ∧ NewR w' v' l' ∧ Below w.heap.size w w' := by
  have HOP := Lib.hid (openS_any n c H A w hb hH hnc hc)
  clear hb
  go_enter Tryd.func13, Tryd.ntmps13
  go_wp2_with fail
  refine HOP.out.mono ?_
  rintro e w1 ⟨rfl, ⟨n', hn', h1, h2⟩, hb1⟩
  have HPT := Lib.hid (pat92_any w.heap.size n' c H 0 A w1 h1 h2 hH (by omega) hn')
  have HB1 := Lib.hid hb1
  have hlt := h1.lt
  clear h1 h2 hb1 HOP
  go_wp2_with fail
  refine HPT.out.mono ?_
  rintro e w2 ⟨v, l, v', l', q, rfl, hv1, hv2, ⟨hl1, hl2, _⟩, hg⟩
  obtain ⟨A1, n1, c1, rfl, hr1⟩ := hv1.newR hl1
  obtain ⟨A2, n2, c2, rfl, hr2⟩ := hv2.newR hl2
  have HB2 := Lib.hid (below_grown HB1.out hg hlt)
  have HR1 := Lib.hid hr1
  have HR2 := Lib.hid hr2
  clear hr1 hr2 hg hv1 hv2
  go_wp2
  go_ret2
  exact ⟨_, l, _, l', rfl, ⟨A1, n1, c1, rfl, HR1.out⟩, ⟨A2, n2, c2, rfl, HR2.out⟩, HB2.out⟩
end Go.Proofs.YtmfilnpbkonfaabDoor
