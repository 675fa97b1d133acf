/- WeaveCount and WeaveAll of the model and of the program. -/
import Derived.Test.YtgojojoanhilnabDoorWvY2
import Derived.Test.YtgojojoanhilnabDoorWvY0
import Derived.Test.YtgojojoanhilnabDoorGrX
namespace Go.Proofs.YtgojojoanhilnabDoor
open Go.ChangeShapes Go.WideShapes Go.ChangeAt Go.RowKit

def wctR (n : Int) (p q : List Int) : Int := if Wov n p q then ((wovenL n.toNat [p, q]).length : Nat) else 0
def waR (n : Int) (p q : List Int) : List (List Int) := if Wov n p q then wovenL n.toNat [p, q] else []
theorem sumTo_bd6 (L : List (List Int)) (m : Nat) (h : ∀ l ∈ L, l.length ≤ m) : ∀ k, k ≤ L.length → sumTo L k ≤ m * k
  | 0, _ => by simp [sumTo]
  | k + 1, hk => by
    have ih := sumTo_bd6 L m h k (by omega)
    have := h _ (rowK_mem (M := L) (k := k) (by omega))
    rw [sumTo, Nat.mul_succ]
    omega
theorem wov_nat {n : Int} {p q : List Int} (h : Wov n p q) : ∃ k : Nat, n = k ∧ 3 ≤ k ∧ k ≤ 6 := lst_nat (wov_lst h)
theorem waR_tot (n : Int) (p q : List Int) : tot (waR n p q) ≤ 1048576 := by
  unfold waR
  split
  · rename_i h
    obtain ⟨k, rfl, h3, h6⟩ := wov_nat h
    rw [Int.toNat_natCast]
    have hl := wovenL_len k [p, q] h3 h6
    have hs := sumTo_bd6 (wovenL k [p, q]) 6 (fun r hr => by rw [(wovenL_is k _ h3 h6 r hr).1]; exact h6) _ (Nat.le_refl _)
    unfold tot; omega
  · simp [tot, sumTo]

set_option maxRecDepth 10000 in
set_option maxHeartbeats 1000000 in
theorem wcS_any (Ap : Option Addr) (np cp : Nat) (Aq : Option Addr) (nq cq H : Nat) (n : Int) (p q : List Int) (w : World) (hp : Rd w H Ap np p) (hq : Rd w H Aq nq q) (hH : H ≤ w.heap.size) (hpn : np ≤ 1048576) (hqn : nq ≤ 1048576) (hpc : np ≤ cp) (hpm : cp ≤ 9223372036854775807) (hqc : nq ≤ cq) (hqm : cq ≤ 9223372036854775807) :
    Calls Tryd.prog 14 #[.int .i64 n, .slice Ap np cp, .slice Aq nq cq] w fun e w' => e = .returned (.tuple #[.int .i64 (wctR n p q), .bool (wov n p q)]) ∧ Below w.heap.size w w' := by
  have HC := Lib.hid (two6_any Ap Aq np cp nq cq H n p q w hp hq hpn hqn)
  by_cases h : Wov n p q
  · obtain ⟨k, rfl, h3, h6⟩ := wov_nat h
    rw [wov_yes h] at HC ⊢
    rw [wctR, if_pos h, Int.toNat_natCast]
    have HL := Lib.hid (fun d => l6wRings_any _ 2 2 _ k [p, q] _ (rds_pair (w.drewN d) H Ap Aq np nq cp cq p q (hp.drewN d) (hq.drewN d) hH hpc hpm hqc hqm) (by simp) h3 h6 (by omega) (wov_lst h).2.2)
    clear hp hq h
    generalize wovenL k [p, q] = M at *
    go_enter Tryd.func14, Tryd.ntmps14
    go_wp2_with fail
    refine HC.out.mono ?_
    rintro e w1 ⟨rfl, d, rfl⟩
    go_wp2_with fail
    refine (HL.out d).mono ?_
    rintro e w2 ⟨v, rfl, hg2, hb2⟩
    obtain ⟨A2, c2, rfl, _⟩ := hg2.slice
    have HB2 := Lib.hid (((below_drewN (Below.refl w.heap.size w) d).alloc (by simp) (.cells #[.slice Ap np cp, .slice Aq nq cq] 26)).trans (hb2.mono (by simp)))
    clear hg2 hb2
    go_wp2
    go_ret2
    exact ⟨rfl, HB2.out⟩
  · rw [wov_no h] at HC ⊢
    rw [wctR, if_neg h]
    clear hp hq h
    go_enter Tryd.func14, Tryd.ntmps14
    go_wp2_with (first
      | (go_at_call 32; refine HC.out.mono ?_; rintro e w1 ⟨rfl, k, rfl⟩))
    go_ret2
    exact ⟨rfl, below_drewN (Below.refl _ _) _⟩

set_option maxRecDepth 10000 in
set_option maxHeartbeats 1000000 in
theorem wcI_any (Ap : Option Addr) (np cp : Nat) (Aq : Option Addr) (nq cq H : Nat) (n : Int) (p q : List Int) (w : World) (hp : Rd w H Ap np p) (hq : Rd w H Aq nq q) (hH : H ≤ w.heap.size) (hpn : np ≤ 1048576) (hqn : nq ≤ 1048576) (hpc : np ≤ cp) (hpm : cp ≤ 9223372036854775807) (hqc : nq ≤ cq) (hqm : cq ≤ 9223372036854775807) (hT : Tab w) :
    Calls Tryd.prog 13 #[.int .i64 n, .slice Ap np cp, .slice Aq nq cq] w fun e w' => e = .returned (.tuple #[.int .i64 (wctR n p q), .bool (wov n p q)]) ∧ Below w.heap.size w w' := by
  have HC := Lib.hid (readWoven_any Ap Aq np cp nq cq H n p q w hp hq hH hpn hqn hpc hpm hqc hqm)
  have HT := Lib.hid hT
  by_cases h : Wov n p q
  · obtain ⟨k, rfl, h3, h6⟩ := wov_nat h
    rw [wov_yes h, wovL_yes h] at HC
    rw [wov_yes h, wctR, if_pos h, Int.toNat_natCast]
    have HW := Lib.hid (wov_lst h).2.2
    clear hp hq h hT
    go_enter Tryd.func13, Tryd.ntmps13
    go_wp2_with fail
    refine HC.out.mono ?_
    rintro e w1 ⟨v1, rfl, hr1, hb1⟩
    obtain ⟨A1, c1, rfl, _⟩ := hr1.slice
    have HG := Lib.hid (woven_any k A1 2 c1 w1.heap.size [p, q] w1 hr1.rd.2 (Nat.le_refl _) h3 h6 (by omega) HW.out (HT.out.on hb1))
    clear hr1 HC
    go_wp2_with fail
    refine HG.out.mono ?_
    rintro e w2 ⟨v2, rfl, hr2, hb2⟩
    obtain ⟨A2, c2, rfl⟩ := hr2.slice
    have hlen : Hid ((padM (wovenL k [p, q])).length = (wovenL k [p, q]).length) := by simp [Hid, padM]
    rw [hlen.out]
    clear hr2
    go_wp2
    go_ret2
    exact ⟨rfl, hb1.trans (hb2.mono hb1.size)⟩
  · rw [wov_no h] at HC ⊢
    rw [wctR, if_neg h]
    clear hp hq h hT
    go_enter Tryd.func13, Tryd.ntmps13
    go_wp2_with (first
      | (go_at_call 31; refine HC.out.mono ?_; rintro e w1 ⟨v1, rfl, hp1, hb1⟩; obtain ⟨A1, c1, ev, _⟩ := hp1.slice; subst ev; clear hp1))
    go_ret2
    exact ⟨rfl, hb1⟩

set_option maxRecDepth 10000 in
set_option maxHeartbeats 1000000 in
theorem waS_any (Ap : Option Addr) (np cp : Nat) (Aq : Option Addr) (nq cq H : Nat) (n : Int) (p q : List Int) (w : World) (hp : Rd w H Ap np p) (hq : Rd w H Aq nq q) (hH : H ≤ w.heap.size) (hpn : np ≤ 1048576) (hqn : nq ≤ 1048576) (hpc : np ≤ cp) (hpm : cp ≤ 9223372036854775807) (hqc : nq ≤ cq) (hqm : cq ≤ 9223372036854775807) :
    Calls Tryd.prog 18 #[.int .i64 n, .slice Ap np cp, .slice Aq nq cq] w fun e w' => ∃ v, e = .returned (.tuple #[v, .bool (wov n p q)]) ∧ (∃ A c, v = .slice A (waR n p q).length c ∧ RdS w' w'.heap.size A (waR n p q).length (waR n p q)) ∧ Below w.heap.size w w' := by
  have HC := Lib.hid (two6_any Ap Aq np cp nq cq H n p q w hp hq hpn hqn)
  by_cases h : Wov n p q
  · obtain ⟨k, rfl, h3, h6⟩ := wov_nat h
    rw [wov_yes h] at HC ⊢
    rw [waR, if_pos h, Int.toNat_natCast]
    have HL := Lib.hid (fun d => l6wRings_any _ 2 2 _ k [p, q] _ (rds_pair (w.drewN d) H Ap Aq np nq cp cq p q (hp.drewN d) (hq.drewN d) hH hpc hpm hqc hqm) (by simp) h3 h6 (by omega) (wov_lst h).2.2)
    clear hp hq h
    generalize wovenL k [p, q] = M at *
    go_enter Tryd.func18, Tryd.ntmps18
    go_wp2_with fail
    refine HC.out.mono ?_
    rintro e w1 ⟨rfl, d, rfl⟩
    go_wp2_with fail
    refine (HL.out d).mono ?_
    rintro e w2 ⟨v, rfl, hg2, hb2⟩
    obtain ⟨A2, c2, rfl, _⟩ := hg2.slice
    have HB2 := Lib.hid (((below_drewN (Below.refl w.heap.size w) d).alloc (by simp) (.cells #[.slice Ap np cp, .slice Aq nq cq] 26)).trans (hb2.mono (by simp)))
    have HRD := Lib.hid hg2.rd.2
    clear hg2 hb2
    go_wp2
    go_ret2
    exact ⟨_, rfl, ⟨A2, c2, rfl, HRD.out⟩, HB2.out⟩
  · rw [wov_no h] at HC ⊢
    rw [waR, if_neg h]
    clear hp hq h
    go_enter Tryd.func18, Tryd.ntmps18
    go_wp2_with (first
      | (go_at_call 32; refine HC.out.mono ?_; rintro e w1 ⟨rfl, k, rfl⟩))
    go_ret2
    exact ⟨_, rfl, ⟨_, _, rfl, RdS.nil⟩, (below_drewN (Below.refl _ _) _).alloc (by simp) _⟩

theorem GrowX.empty6 {B : Nat} (w : World) (hB : B ≤ w.heap.size) : GrowX (w.alloc (.cells #[] 26)) B (.slice (some ⟨w.heap.size, 0, none⟩) 0 0) [] [] := by
  refine ⟨⟨by simp, .inr ⟨w.heap.size, 0, #[], rfl, hB, heap_alloc_new w _, Nat.le_refl _, by decide, by simp, by simp⟩⟩, fun k hk => by simp at hk, ?_⟩
  intros
  simp_all
/-- A row of rings lies in no block of slices. -/
theorem rings_apart {w : World} {B D n : Nat} {v u : Value} {M : List (List Int)} {xs : List Value} (h : RowN w B 49 7 v M) (ho : w.ownsRow D 26 1 u n xs) : ∀ k, v.ownBlock = some k → u.ownBlock ≠ some k := by
  intro k hk e
  rcases h.2.2 with ⟨rfl, _⟩ | ⟨g, cap, cur, rfl, _, hg, _⟩
  · simp [Value.ownBlock] at hk
  · simp [Value.ownBlock] at hk
    subst hk
    rcases ho.2 with ⟨rfl, _⟩ | ⟨g', cap', cur', rfl, _, hg', _⟩
    · simp [Value.ownBlock] at e
    · simp [Value.ownBlock] at e
      subst e
      rw [hg] at hg'
      injection hg' with e1
      injection e1 with _ e2
      exact absurd e2 (by decide)

set_option maxRecDepth 10000 in
set_option maxHeartbeats 2000000 in
theorem waI_any (Ap : Option Addr) (np cp : Nat) (Aq : Option Addr) (nq cq H : Nat) (n : Int) (p q : List Int) (w : World) (hp : Rd w H Ap np p) (hq : Rd w H Aq nq q) (hH : H ≤ w.heap.size) (hpn : np ≤ 1048576) (hqn : nq ≤ 1048576) (hpc : np ≤ cp) (hpm : cp ≤ 9223372036854775807) (hqc : nq ≤ cq) (hqm : cq ≤ 9223372036854775807) (hT : Tab w) :
    Calls Tryd.prog 17 #[.int .i64 n, .slice Ap np cp, .slice Aq nq cq] w fun e w' => ∃ v, e = .returned (.tuple #[v, .bool (wov n p q)]) ∧ OwnS w' w.heap.size w'.heap.size v (waR n p q) ∧ Below w.heap.size w w' := by
  obtain ⟨i0, hi, hz0, hz1, hz2⟩ := info_parts row_info
  have HC := Lib.hid (readWoven_any Ap Aq np cp nq cq H n p q w hp hq hH hpn hqn hpc hpm hqc hqm)
  have HT := Lib.hid hT
  by_cases h : Wov n p q
  · obtain ⟨k0, rfl, h3, h6⟩ := wov_nat h
    rw [wov_yes h, wovL_yes h] at HC
    rw [wov_yes h, waR, if_pos h, Int.toNat_natCast]
    have HW := Lib.hid (wov_lst h).2.2
    have HIS := Lib.hid (wovenL_is k0 [p, q] h3 h6)
    have HML := Lib.hid (wovenL_len k0 [p, q] h3 h6)
    clear hp hq h hT
    go_enter Tryd.func17, Tryd.ntmps17
    go_wp2_with fail
    refine HC.out.mono ?_
    rintro e w1 ⟨v1, rfl, hr1, hb1⟩
    obtain ⟨A1, c1, rfl, _⟩ := hr1.slice
    obtain ⟨D, hD⟩ : ∃ D, D = w1.heap.size := ⟨_, rfl⟩
    have HX2 : Hid (GrowX (w1.alloc (.cells #[] 26)) D (.slice (some ⟨D, 0, none⟩) 0 0) [] []) := by rw [hD]; exact GrowX.empty6 w1 (Nat.le_refl _)
    have hs2 : (w1.alloc (.cells #[] 26)).heap.size = D + 1 := by simp [hD]
    have hb2 : Below w1.heap.size w1 (w1.alloc (.cells #[] 26)) := (Below.refl _ _).alloc (Nat.le_refl _) _
    have HB2 := Lib.hid (hb1.trans (hb2.mono hb1.size))
    have hr2 : RdS (w1.alloc (.cells #[] 26)) D A1 2 [p, q] := by rw [hD]; exact hr1.rd.2.below hb2
    have HG := Lib.hid (woven_any k0 A1 2 c1 D [p, q] _ hr2 (by rw [hs2]; omega) h3 h6 (by omega) HW.out ((HT.out.on hb1).on hb2))
    have hDw : w.heap.size ≤ D := by rw [hD]; exact hb1.size
    clear hr1 hr2 HC hb1 hb2 HW
    go_wp2_with fail
    rw [← hD]
    clear hD
    generalize w1.alloc (.cells #[] 26) = W2 at *
    refine HG.out.mono ?_
    rintro e w3 ⟨v3, rfl, hr3, hb3⟩
    have HX3 := Lib.hid (HX2.out.below hb3 (Nat.le_refl _))
    have HR3 := Lib.hid hr3
    have HB3 := Lib.hid (HB2.out.trans (hb3.mono HB2.out.size))
    have hs3 := hb3.size
    have hpl : (padM (wovenL k0 [p, q])).length = (wovenL k0 [p, q]).length := by simp [padM]
    obtain ⟨A3, c3, e3⟩ := hr3.slice
    rw [hpl] at e3
    clear HX2 HB2 HG hr3 hb3
    obtain ⟨M, hM⟩ : ∃ M, M = wovenL k0 [p, q] := ⟨_, rfl⟩
    rw [← hM] at HML HIS HR3 hpl e3
    have HMM := Lib.hid hM
    clear hM
    obtain ⟨N, hN⟩ : ∃ N, N = M.length := ⟨_, rfl⟩
    rw [← hN] at hpl e3 HML
    have HN := Lib.hid hN
    have HPL := Lib.hid hpl
    have hN7 : N ≤ 720 := HML.out
    subst e3
    clear hN hpl HML
    go_wp2
    go_loopw [10, 27] (fun v i wr => ∃ k : Nat, k ≤ N ∧ i = .int .i64 k ∧ (∃ xs, Hid (GrowX wr D v (M.take k) xs)) ∧ Hid (RowN wr W2.heap.size 49 7 (.slice A3 N c3) (padM M)) ∧ Hid (Below w.heap.size w wr) ∧ D ≤ wr.heap.size) (fun _ i _ => N - (intOf i).toNat)
    case atStart => exact ⟨0, Nat.zero_le _, rfl, ⟨[], HX3⟩, HR3, HB3, by omega⟩
    case round =>
      obtain ⟨k, hk, rfl, ⟨xs, hx⟩, hrow, hbl, hDr⟩ := hrel
      clear HX3 HR3 HB3
      by_cases hlt : k < N
      · have hkM : k < M.length := by rw [← HN.out]; exact hlt
        have hkP : k < (padM M).length := by rw [HPL.out]; exact hlt
        obtain ⟨g, c', e0, _, _, _, _, h77, _⟩ := hrow.out.elem hkP
        rw [HPL.out] at e0
        injection e0 with e1 _ e4
        subst e1; subst e4
        have hI := HIS.out _ (rowK_mem hkM)
        have HE : Hid (rowK (padM M) k = padR (rowK M k)) := by simp [Hid, padM, rowK, List.getD, hkM]
        have HST : Hid (M.take (k + 1) = M.take k ++ [rowK M k]) := by
          rw [Hid, List.take_succ_eq_append_getElem hkM]; simp [rowK, List.getD, hkM]
        have hkl : (M.take k).length = k := by rw [List.length_take]; omega
        have HLI := Lib.hid (fun W => list_any (rowK M k) W (by rw [hI.1]; omega) (by rw [hI.1]; omega) hI.2.1)
        have hll : (rowK M k).length = k0 := hI.1
        have H77 := Lib.hid (padR_length (rowK M k) (by rw [hI.1]; omega))
        have HNR := Lib.hid (new_ring wr)
        have HKP := Lib.hid hkP
        clear hI h77
        generalize rowK M k = R at *
        unfold agp at HLI
        generalize padR R = Q at *
        go_wp2_with (first
          | (refine load_elem rfl _ 49 rfl _ rfl Tryd.underlying49 g N c3 W2.heap.size k 7 (padM M) hrow HKP.out ring_size rfl ?_; rw [HE.out])
          | (refine store_ring rfl _ _ rfl wr.heap.size zero7 Q rfl H77.out rfl rfl HNR ?_; intro w4 HA4 hg4 hs4)
          | (refine load_ring rfl _ rfl wr.heap.size Q H77.out rfl HA4 ?_))
        have hb4 : Below wr.heap.size wr w4 := ((Below.refl _ _).alloc (Nat.le_refl _) _).grown hg4 (by simp) (by simp)
        have HB4 := Lib.hid hb4
        clear hb4 hg4 hs4 HA4 HNR
        refine (HLI.out w4).mono ?_
        rintro e w5 ⟨vr, rfl, ho5, hb5⟩
        obtain ⟨Ar, cr, rfl⟩ := ho5.slice
        have HRV := Lib.hid ((own_rowV5 ho5).less HB4.out.size)
        have HB5 := Lib.hid (HB4.out.trans (hb5.mono HB4.out.size))
        have HBD := Lib.hid (hbl.out.trans (HB5.out.mono (by omega)))
        have HX5 := Lib.hid (hx.out.below HB5.out (Nat.le_refl _))
        have HRO5 := Lib.hid (hrow.out.below HB5.out (fun i hi => (hrow.out.lt i hi).2))
        have HX := Lib.hid hx.out
        have hs5 := HB5.out.size
        clear ho5 hb5 HB4 hx hbl hrow
        have HX1 := Lib.hid HX5.out.1
        rw [hll] at HRV ⊢
        go_wp2_with (at_builtin; refine wpList_append_own _ rfl _ _ 23 rfl D 26 i0 (.slice none 0 0) 1 24 Tryd.underlying23 hi hz0 hz1 hz2 rfl (by decide) _ _ _ rfl (HX1.out.alloc _) ⟨w5.heap.size, 0, none⟩ 1 1 [.slice Ar k0 cr] rfl rfl (one_cell w5 _ _) (by simp [Value.oneCell']) (by unfold maxLen; omega) (by omega) (by simp; omega) ?_)
        intro v' w6 hown6 hgr6 _
        have HG6 := Lib.hid (HX.out.snoc HB5.out hDr HRV.out _ (by rw [hkl]; exact hown6) hgr6)
        rw [← HST.out] at HG6
        have HB6 := Lib.hid ((HBD.out.alloc (by omega) _).grown hgr6 (by simp; omega) (fun i hi => Nat.le_trans hDw (HX1.out.lt i hi).1))
        have hap := rings_apart (HRO5.out.alloc (.cells #[.slice Ar k0 cr] 26)) (HX1.out.alloc (.cells #[.slice Ar k0 cr] 26))
        have HRO6 := Lib.hid ((HRO5.out.alloc (.cells #[.slice Ar k0 cr] 26)).grown hgr6 hap)
        have hD6 : D ≤ w6.heap.size := by have := hgr6.size; simp at this; omega
        clear hown6 hgr6 hap
        go_wp2
        go_roundw
        case rel => exact ⟨k + 1, by omega, by go_num, ⟨_, HG6⟩, HRO6, HB6, hD6⟩
        case measure => simp [intOf]; omega
      · obtain rfl : k = N := by omega
        rw [List.take_of_length_le (by rw [← HN.out]; exact Nat.le_refl _)] at hx
        have HOW := Lib.hid (hx.out.owned.more (B' := w.heap.size) hDw (Nat.le_refl _))
        clear hx hrow
        obtain ⟨A9, c9, e9⟩ := HOW.out.slice
        subst e9
        go_wp2
        go_ret2
        exact ⟨_, rfl, by rw [← HMM.out]; exact HOW.out, hbl.out⟩
  · rw [wov_no h] at HC ⊢
    rw [waR, if_neg h]
    clear hp hq h hT
    go_enter Tryd.func17, Tryd.ntmps17
    go_wp2_with (first
      | (go_at_call 31; refine HC.out.mono ?_; rintro e w1 ⟨v1, rfl, hp1, hb1⟩; obtain ⟨A1, c1, ev, _⟩ := hp1.slice; subst ev; clear hp1))
    go_ret2
    exact ⟨_, rfl, .inl ⟨rfl, rfl⟩, hb1⟩
end Go.Proofs.YtgojojoanhilnabDoor
