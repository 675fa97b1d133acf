/- The laws' drawer of a ring, a pattern and a set. -/
import Derived.Test.YtmfilnpbkonfaabDoorDraw19
import Derived.Test.YtmfilnpbkonfaabDoorPnV
import Derived.Test.YtmfilnpbkonfaabDoorDraw8
namespace Go.Proofs.YtmfilnpbkonfaabDoor
open Go.ChangeShapes Go.WideShapes Go.ChangeAt Go.RowKit

theorem small_wrap (N : Nat) (h : N ≤ 128) : wrap64 (N : Int) = (N : Int) ∧ IntKind.i64.wrap (N : Int) = (N : Int) := by
  constructor
  · unfold wrap64; omega
  · exact IntWalk.i64_in _ (by omega)
set_option maxRecDepth 10000 in
set_option maxHeartbeats 2000000 in
theorem drawPatternAt_any (n c H : Nat) (A : Option Addr) (w : World) (hb : Byt w H A n) (hH : H ≤ w.heap.size) (hnc : n ≤ c) (hc : c ≤ 9223372036854775807) :
    Calls Tryd.prog 7 #[.slice A n c] w fun e w' => ∃ v l v' p x, e = .returned (.tuple #[v, v', .int .i64 x]) ∧ NewR w' v l ∧ NewR w' v' p ∧ Below w.heap.size w w' := by
  have HOP := Lib.hid (openS_any n c H A w hb hH hnc hc)
  clear hb
  go_enter Tryd.func7, Tryd.ntmps7
  go_wp2_with fail
  refine HOP.out.mono ?_
  rintro e w1 ⟨rfl, ⟨n', hn', h1, h2⟩, hb1⟩
  have HPT := Lib.hid (pat92_any w.heap.size n' c H 0 A w1 h1 h2 hH (by omega) hn')
  have HB1 := Lib.hid hb1
  have HY1 := Lib.hid h2
  have hltV := h1.lt
  generalize hR : w.heap.size = R at *
  have HRq := Lib.hid hR
  have HP : Hid (∀ (V : World) (q m : Nat) (M : Int), M = (m : Int) → RdAt V R A n' c q → Byt V H A n' → q ≤ 100000 → 1 ≤ m → m ≤ 1000 → Calls Tryd.prog 28 #[.pointer (some ⟨R, 0, none⟩), .int .i64 M] V fun e w' => (∃ k : Nat, k < m ∧ e = .returned (.int .i64 (k : Int))) ∧ RdAt w' R A n' c (q + 1) ∧ V.grownBy w' (some R) ∧ w'.heap.size = V.heap.size) := fun V q m M hM h1 h2 h3 h4 h5 => by
    subst hM
    exact pick_any R n' c H q m A V h1 h2 hH h3 hn' h4 h5
  clear h1 h2 hb1 HOP hR
  go_wp2_with fail
  refine HPT.out.mono ?_
  rintro e w2 ⟨v, l, v', p, q, rfl, hv1, hv2, ⟨hl1, hl2, hl12, h1, hq⟩, hg⟩
  have HB2 := Lib.hid (below_grown HB1.out hg hltV)
  have HY2 := Lib.hid (HY1.out.grown hg hH)
  have HR2 := Lib.hid h1
  have HV2 := Lib.hid hv1
  have HU2 := Lib.hid hv2
  have hlt2 := h1.lt
  obtain ⟨A1, c1, ev, _⟩ := hv1.2
  subst ev
  obtain ⟨A2, c2, ev, _⟩ := hv2.2
  subst ev
  have HPF := Lib.hid (pfS_any A1 l.length c1 A2 p.length c2 w2.heap.size l p w2 hv1.1.rd.2 hv2.1.rd.2 (Nat.le_refl _) (by omega) (by omega))
  obtain ⟨z1, hz1⟩ : ∃ z, z = l.length := ⟨_, rfl⟩
  obtain ⟨z2, hz2⟩ : ∃ z, z = p.length := ⟨_, rfl⟩
  rw [← hz1] at HPF HV2 hl1 hl12 ⊢
  rw [← hz2] at HPF HU2 hl2 ⊢
  have HZ1 := Lib.hid hz1
  have HZ2 := Lib.hid hz2
  clear hv1 hv2 h1 hg HB1 HY1 HPT hz1 hz2
  generalize pfR l p = x at *
  go_wp2_with fail
  refine HPF.out.mono ?_
  rintro e w3 ⟨rfl, hb3⟩
  have HB3 := Lib.hid (HB2.out.trans (hb3.mono (Nat.le_of_lt hlt2)))
  have HY3 := Lib.hid (HY2.out.keep (fun b o hb => hb3.cell (p := ⟨b, o, none⟩) (Nat.lt_of_lt_of_le hb (by omega))))
  have HR3 := Lib.hid (HR2.out.same (hb3.block R hlt2))
  have HV3 := Lib.hid (HV2.out.same fun k hk => hb3.block k (HV2.out.1.lt k hk).2)
  have HU3 := Lib.hid (HU2.out.same fun k hk => hb3.block k (HU2.out.1.lt k hk).2)
  have hlt3 := HR3.out.lt
  clear hb3 HB2 HY2 HR2 HV2 HU2 HPF hlt2
  have hsh : (2 : Int) ^ z1 = ((2 ^ z1 : Nat) : Int) := by simp
  have hpw : 2 ^ z1 ≤ 128 := Nat.pow_le_pow_right (n := 2) (by omega) hl1
  have h1p : 1 ≤ 2 ^ z1 := Nat.one_le_two_pow
  obtain ⟨N, hN⟩ : ∃ N, N = 2 ^ z1 := ⟨_, rfl⟩
  rw [← hN] at hsh hpw h1p
  clear hN
  obtain ⟨hn1, hn2⟩ := small_wrap N hpw
  have hs1 : wrap64 (2 ^ z1) = (N : Int) := by rw [hsh]; exact hn1
  have hs2 : IntKind.i64.wrap (2 ^ z1) = (N : Int) := by rw [hsh]; exact hn2
  clear hsh
  cases pfB l p with
  | false =>
    go_wp2_with (first
      | (go_at_call 28
         clear hs1 hs2 hn1 hn2
         refine (HP.out _ _ N _ rfl HR3.out HY3.out (by omega) (by omega) (by omega)).mono ?_
         rintro e wa ⟨⟨v1, hv1, rfl⟩, h1, hg, h3⟩
         have HBa := Lib.hid (below_grown HB3.out hg hlt3)
         have HYa := Lib.hid (HY3.out.grown hg hH)
         have HVa := Lib.hid (HV3.out.grown5 hg hltV)
         have HUa := Lib.hid (HU3.out.grown5 hg hltV)
         have HRa := Lib.hid h1
         have hlta := h1.lt
         clear h1 hg h3 HB3 HR3 HY3 HV3 HU3 hlt3)
      | (go_at_call 28
         refine (HP.out _ _ 24 _ rfl HRa.out HYa.out (by omega) (by omega) (by omega)).mono ?_
         rintro e wb ⟨⟨v2, hv2, rfl⟩, h1, hg, h3⟩
         have HBb := Lib.hid (below_grown HBa.out hg hlta)
         have HVb := Lib.hid (HVa.out.grown5 hg hltV)
         have HUb := Lib.hid (HUa.out.grown5 hg hltV)
         obtain ⟨q2, k2, t2⟩ := tdiv_one v2 23 (by omega)
         have t2' : Int.tdiv (v2 : Int) 23 = (q2 : Int) := t2
         have x2 : IntKind.i64.wrap (q2 : Int) = (q2 : Int) := IntWalk.i64_in _ (by omega)
         have s2 : IntKind.i64.wrap ((v1 : Int) - (q2 : Int)) = (v1 : Int) - (q2 : Int) := IntWalk.i64_in _ (by omega)
         clear h1 hg h3 HBa HRa HYa HVa HUa hlta t2))
    go_ret3
    exact ⟨_, l, _, p, _, rfl, HVb.out.newR (by rw [← HZ1.out]; exact hl1), HUb.out.newR (by rw [← HZ2.out]; exact hl2), by rw [HRq.out]; exact HBb.out⟩
  | true =>
    have HP3 := Lib.hid (HP.out w3 q 2 2 rfl HR3.out HY3.out (Nat.le_trans hq (by decide)) (by decide) (by decide))
    go_wp2_with fail
    refine HP3.out.mono ?_
    rintro e w4 ⟨⟨v0, hv0, rfl⟩, h1, hg, h3⟩
    have HB4 := Lib.hid (below_grown HB3.out hg hlt3)
    have HY4 := Lib.hid (HY3.out.grown hg hH)
    have HV4 := Lib.hid (HV3.out.grown5 hg hltV)
    have HU4 := Lib.hid (HU3.out.grown5 hg hltV)
    have HR4 := Lib.hid h1
    have hlt4 := h1.lt
    clear h1 hg h3 HB3 HR3 HY3 HV3 HU3 hlt3 HP3
    by_cases e0 : v0 = 0
    · subst e0
      go_wp2
      go_ret3
      exact ⟨_, l, _, p, _, rfl, HV4.out.newR (by rw [← HZ1.out]; exact hl1), HU4.out.newR (by rw [← HZ2.out]; exact hl2), by rw [HRq.out]; exact HB4.out⟩
    · have hb0 : ((v0 : Int) == 0) = false := by clear hs1 hs2 hn1 hn2; simp; omega
      clear e0 hv0
      go_wp2_with (first
        | (go_at_call 28
           clear hs1 hs2 hn1 hn2
           refine (HP.out _ _ N _ rfl HR4.out HY4.out (by omega) (by omega) (by omega)).mono ?_
           rintro e wa ⟨⟨v1, hv1, rfl⟩, h1, hg, h3⟩
           have HBa := Lib.hid (below_grown HB4.out hg hlt4)
           have HYa := Lib.hid (HY4.out.grown hg hH)
           have HVa := Lib.hid (HV4.out.grown5 hg hltV)
           have HUa := Lib.hid (HU4.out.grown5 hg hltV)
           have HRa := Lib.hid h1
           have hlta := h1.lt
           clear h1 hg h3 HB4 HR4 HY4 HV4 HU4 hlt4)
        | (go_at_call 28
           refine (HP.out _ _ 24 _ rfl HRa.out HYa.out (by omega) (by omega) (by omega)).mono ?_
           rintro e wb ⟨⟨v2, hv2, rfl⟩, h1, hg, h3⟩
           have HBb := Lib.hid (below_grown HBa.out hg hlta)
           have HVb := Lib.hid (HVa.out.grown5 hg hltV)
           have HUb := Lib.hid (HUa.out.grown5 hg hltV)
           obtain ⟨q2, k2, t2⟩ := tdiv_one v2 23 (by omega)
           have t2' : Int.tdiv (v2 : Int) 23 = (q2 : Int) := t2
           have x2 : IntKind.i64.wrap (q2 : Int) = (q2 : Int) := IntWalk.i64_in _ (by omega)
           have s2 : IntKind.i64.wrap ((v1 : Int) - (q2 : Int)) = (v1 : Int) - (q2 : Int) := IntWalk.i64_in _ (by omega)
           clear h1 hg h3 HBa HRa HYa HVa HUa hlta t2))
      go_ret3
      exact ⟨_, l, _, p, _, rfl, HVb.out.newR (by rw [← HZ1.out]; exact hl1), HUb.out.newR (by rw [← HZ2.out]; exact hl2), by rw [HRq.out]; exact HBb.out⟩
end Go.Proofs.YtmfilnpbkonfaabDoor
