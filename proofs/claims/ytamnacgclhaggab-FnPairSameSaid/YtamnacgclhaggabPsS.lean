/- PairSame of the model. -/
import Derived.Test.YtamnacgclhaggabAllP
import Derived.Test.YtamnacgclhaggabMA
import Derived.BigQuiet
import Derived.Deep.QuietTactic
namespace Go.Proofs.Ytamnacgclhaggab
open Go.ChangeShapes Go.WideShapes Go.ChangeAt Go.RowKit

def psB (l0 l1 : List Int) : Bool := decide (Ring l0 ∧ Ring l1 ∧ l0.length = l1.length ∧ 4 ≤ l0.length ∧ allP l0 = allP l1)
theorem ps_no {l0 l1 : List Int} (h : ¬ (Ring l0 ∧ Ring l1 ∧ l0.length = l1.length ∧ 4 ≤ l0.length)) : psB l0 l1 = false := by
  rw [psB, decide_eq_false_iff_not]
  exact fun hh => h ⟨hh.1, hh.2.1, hh.2.2.1, hh.2.2.2.1⟩
theorem ps_yes {l0 l1 : List Int} (h : Ring l0 ∧ Ring l1 ∧ l0.length = l1.length ∧ 4 ≤ l0.length) : psB l0 l1 = decide (allP l0 = allP l1) := by
  rw [psB, decide_eq_decide]
  exact ⟨fun hh => hh.2.2.2.2, fun hh => ⟨h.1, h.2.1, h.2.2.1, h.2.2.2, hh⟩⟩
theorem takeK (L : List (List Int)) (k : Nat) (h : k < L.length) : L.take (k + 1) = L.take k ++ [rowK L k] := by
  rw [List.take_succ_eq_append_getElem h]
  simp [rowK, List.getD, h]

set_option maxRecDepth 10000 in
set_option maxHeartbeats 4000000 in
theorem psS_any (A0 : Option Addr) (n0 c0 : Nat) (A1 : Option Addr) (n1 c1 H : Nat) (l0 l1 : List Int) (w : World) (h0 : Rd w H A0 n0 l0) (h1 : Rd w H A1 n1 l1) (hH : H ≤ w.heap.size) (hn0 : n0 ≤ 1048576) (hn1 : n1 ≤ 1048576) :
    Calls Try.prog 31 #[.slice A0 n0 c0, .slice A1 n1 c1] w fun e w' => e = .returned (.bool (psB l0 l1)) ∧ Below w.heap.size w w' := by
  have HR0 := Lib.hid (ringS_any A0 n0 c0 H l0 w h0 hn0)
  have HR1 := Lib.hid (ringS_any A1 n1 c1 H l1 w h1 hn1)
  have L0 := h0.len
  have L1 := h1.len
  have hna : ∀ V : World, l0 = l0 := fun _ => rfl
  clear hna
  by_cases hr0 : Ring l0
  rotate_left
  · rw [ps_no (fun hh => hr0 hh.1)]
    rw [ring_no hr0] at HR0
    clear hr0 h0 h1 L0 L1
    go_enter Try.func31, Try.ntmps31
    go_wp2_with (first
  | (go_at_call_of 52 (Value.slice A0 n0 c0); refine HR0.out.mono ?_; rintro e w' ⟨rfl, rfl⟩)
  | (go_at_call_of 52 (Value.slice A1 n1 c1); refine HR1.out.mono ?_; rintro e w' ⟨rfl, rfl⟩))
    go_ret
    exact ⟨rfl, Below.refl _ _⟩
  by_cases hr1 : Ring l1
  rotate_left
  · rw [ps_no (fun hh => hr1 hh.2.1)]
    rw [ring_no hr1] at HR1
    rw [ring_yes hr0] at HR0
    clear hr0 hr1 h0 h1 L0 L1
    go_enter Try.func31, Try.ntmps31
    go_wp2_with (first
  | (go_at_call_of 52 (Value.slice A0 n0 c0); refine HR0.out.mono ?_; rintro e w' ⟨rfl, rfl⟩)
  | (go_at_call_of 52 (Value.slice A1 n1 c1); refine HR1.out.mono ?_; rintro e w' ⟨rfl, rfl⟩))
    go_ret
    exact ⟨rfl, Below.refl _ _⟩
  have T0 := Lib.hid hr0.1
  have T1 := Lib.hid hr1.1
  by_cases hlen : n0 = n1
  rotate_left
  · rw [ps_no (fun hh => hlen (by rw [← L0, ← L1]; exact hh.2.2.1))]
    rw [ring_yes hr1] at HR1
    rw [ring_yes hr0] at HR0
    clear hr0 hr1 h0 h1 L0 L1
    go_enter Try.func31, Try.ntmps31
    go_wp2_with (first
  | (go_at_call_of 52 (Value.slice A0 n0 c0); refine HR0.out.mono ?_; rintro e w' ⟨rfl, rfl⟩)
  | (go_at_call_of 52 (Value.slice A1 n1 c1); refine HR1.out.mono ?_; rintro e w' ⟨rfl, rfl⟩))
    go_ret
    exact ⟨rfl, Below.refl _ _⟩
  subst hlen
  by_cases h4 : 4 ≤ n0
  rotate_left
  · rw [ps_no (fun hh => h4 (by rw [← L0]; exact hh.2.2.2))]
    rw [ring_yes hr1] at HR1
    rw [ring_yes hr0] at HR0
    clear hr0 hr1 h0 h1 L0 L1
    go_enter Try.func31, Try.ntmps31
    go_wp2_with (first
  | (go_at_call_of 52 (Value.slice A0 n0 c0); refine HR0.out.mono ?_; rintro e w' ⟨rfl, rfl⟩)
  | (go_at_call_of 52 (Value.slice A1 n0 c1); refine HR1.out.mono ?_; rintro e w' ⟨rfl, rfl⟩))
    go_ret
    exact ⟨rfl, Below.refl _ _⟩
  rw [ps_yes ⟨hr0, hr1, by rw [L0, L1], by rw [L0]; exact h4⟩]
  rw [ring_yes hr1] at HR1
  rw [ring_yes hr0] at HR0
  have HA0 := Lib.hid (l3All_any A0 n0 c0 H l0 w h0 hH hr0.1)
  have HA1 := Lib.hid (fun V (hV : Below w.heap.size w V) => l3All_any A1 n0 c1 H l1 V (h1.below (hV.mono hH)) (Nat.le_trans hH hV.size) hr1.1)
  have B0 := allP_len l0 hr0.1.2.1
  have B1 := allP_len l1 hr1.1.2.1
  have R0 := Lib.hid (allP_row l0)
  have R1 := Lib.hid (allP_row l1)
  clear hr0 hr1 h0 h1 L0 L1
  obtain ⟨L, hL⟩ : ∃ L, L = allP l0 := ⟨_, rfl⟩
  obtain ⟨M, hM⟩ : ∃ M, M = allP l1 := ⟨_, rfl⟩
  rw [← hL] at HA0 B0 R0 ⊢
  rw [← hM] at HA1 B1 R1 ⊢
  clear hL hM
  go_enter Try.func31, Try.ntmps31
  go_wp2_with (first
  | (go_at_call_of 52 (Value.slice A0 n0 c0); refine HR0.out.mono ?_; rintro e w' ⟨rfl, rfl⟩)
  | (go_at_call_of 52 (Value.slice A1 n0 c1); refine HR1.out.mono ?_; rintro e w' ⟨rfl, rfl⟩))
  refine HA0.out.mono ?_
  rintro e w2 ⟨v, rfl, hg, hb⟩
  obtain ⟨A2, c2, e, _, _⟩ := hg.slice
  subst e
  have HB2 := Lib.hid hb
  have HG2 := Lib.hid hg
  clear hg hb HA0
  go_wp2_with fail
  refine (HA1.out w2 HB2.out).mono ?_
  rintro e w3 ⟨v, rfl, hg, hb⟩
  obtain ⟨A3, c3, e, _, _⟩ := hg.slice
  subst e
  have HB3 := Lib.hid (HB2.out.trans (hb.mono HB2.out.size))
  have HX := Lib.hid (HG2.out.below hb (Nat.le_refl _)).rd.2
  have HY := Lib.hid hg.rd.2
  obtain ⟨N, hN⟩ : ∃ N, N = L.length := ⟨_, rfl⟩
  obtain ⟨K, hK⟩ : ∃ K, K = M.length := ⟨_, rfl⟩
  have HN := Lib.hid hN
  have HK := Lib.hid hK
  rw [← hN] at HX B0 ⊢
  rw [← hK] at HY B1 ⊢
  clear hg hb HA1 HG2 HB2 hN hK
  go_wp2
  go_loopw [7] (fun i wr => ∃ k : Nat, k ≤ N ∧ k ≤ K ∧ i = .int .i64 k ∧ Hid (L.take k = M.take k) ∧ ∃ p, wr = w3.drewN p) (fun i _ => N - (intOf i).toNat)
  case atStart => exact ⟨0, Nat.zero_le _, Nat.zero_le _, rfl, by simp [Hid], 0, rfl⟩
  case round =>
    obtain ⟨k, hk, hk', rfl, ht, p, rfl⟩ := hrel
    by_cases hlt : k < N
    · by_cases hlt' : k < K
      · have k1 : k < L.length := by rw [← HN.out]; exact hlt
        have k2 : k < M.length := by rw [← HK.out]; exact hlt'
        obtain ⟨b1, o1, rfl, _, hc1⟩ := HX.out.at_ (by omega)
        obtain ⟨b2, o2, rfl, _, hc2⟩ := HY.out.at_ (by omega)
        obtain ⟨C1, d1, x1, r1, z1, _⟩ := hc1 k hlt
        obtain ⟨C2, d2, x2, r2, z2, _⟩ := hc2 k hlt'
        have e1 : (rowK L k).length = 4 := R0.out _ (rowK_mem k1)
        have e2 : (rowK M k).length = 4 := R1.out _ (rowK_mem k2)
        rw [e1] at x1 r1 z1
        rw [e2] at x2 r2 z2
        obtain ⟨f1, q1, rfl, _, y1⟩ := r1.at_ (by omega)
        obtain ⟨f2, q2, rfl, _, y2⟩ := r2.at_ (by omega)
        have E1 := Lib.hid e1
        have E2 := Lib.hid e2
        have T1 := Lib.hid (takeK L k k1)
        have T2 := Lib.hid (takeK M k k2)
        have HNE : Hid (rowK L k ≠ rowK M k → decide (L = M) = false) := fun h => by
          rw [decide_eq_false_iff_not]; intro e; exact h (by rw [e])
        obtain ⟨X, hX⟩ : ∃ X, X = rowK L k := ⟨_, rfl⟩
        obtain ⟨Y, hY⟩ : ∃ Y, Y = rowK M k := ⟨_, rfl⟩
        rw [← hX] at y1 E1 T1 HNE
        rw [← hY] at y2 E2 T2 HNE
        have Y1 := Lib.hid y1
        have Y2 := Lib.hid y2
        clear hX hY e1 e2 hc1 hc2 r1 r2 y1 y2 HX HY k1 k2
        go_wp2
        go_loopw [8] (fun j wr => ∃ m : Nat, m ≤ 4 ∧ j = .int .i64 m ∧ Hid (X.take m = Y.take m) ∧ ∃ p, wr = w3.drewN p) (fun j _ => 4 - (intOf j).toNat)
        case atStart => exact ⟨0, Nat.zero_le _, rfl, by simp [Hid], p, rfl⟩
        case round =>
          obtain ⟨m, hm, rfl, htm, p', rfl⟩ := hrel
          by_cases hltm : m < 4
          · have u1 := Y1.out m hltm
            have u2 := Y2.out m hltm
            have S1 : Hid (X.take (m + 1) = X.take m ++ [X.getD m 0]) := by
              rw [Hid, List.take_succ_eq_append_getElem (by rw [E1.out]; exact hltm)]; simp [List.getD, E1.out, hltm]
            have S2 : Hid (Y.take (m + 1) = Y.take m ++ [Y.getD m 0]) := by
              rw [Hid, List.take_succ_eq_append_getElem (by rw [E2.out]; exact hltm)]; simp [List.getD, E2.out, hltm]
            have NE : Hid (X.getD m 0 ≠ Y.getD m 0 → decide (L = M) = false) := fun h => HNE.out (fun e => h (by rw [e]))
            generalize X.getD m 0 = x at *
            generalize Y.getD m 0 = y at *
            by_cases hxy : x = y
            · subst hxy
              have HT : Hid (X.take (m + 1) = Y.take (m + 1)) := by rw [Hid, S1.out, S2.out, htm.out]
              clear S1 S2 NE htm
              go_wp2
              go_quiet (fail)
              go_wp2
              go_roundw
              case rel => exact ⟨m + 1, by omega, by go_num, HT, _, rfl⟩
              case measure => simp [intOf]; omega
            · have HD : Hid (decide (L = M) = false) := NE.out hxy
              have hxb : (x != y) = true := by simpa using hxy
              clear S1 S2 NE htm
              go_wp2
              go_quiet (fail)
              go_wp2
              go_ret
              exact ⟨by rw [HD.out]; rfl, below_drewN (below_drewN HB3.out _) _⟩
          · obtain rfl : m = 4 := by omega
            have HT : Hid (L.take (k + 1) = M.take (k + 1)) := by
              have h := htm.out
              rw [List.take_of_length_le (by rw [E1.out]; exact Nat.le_refl _), List.take_of_length_le (by rw [E2.out]; exact Nat.le_refl _)] at h
              rw [Hid, T1.out, T2.out, ht.out, h]
            clear htm
            go_wp2
            go_roundw
            case rel => exact ⟨k + 1, by omega, by omega, by go_num, HT, _, rfl⟩
            case measure => simp [intOf]; omega
      · obtain rfl : k = K := by omega
        have HD : Hid (decide (L = M) = false) := by
          rw [Hid, decide_eq_false_iff_not]
          intro e
          have h1 := HN.out
          have h2 := HK.out
          rw [e] at h1
          omega
        clear ht
        go_wp2
        go_ret
        exact ⟨by rw [HD.out]; simp; omega, below_drewN HB3.out _⟩
    · obtain rfl : k = N := by omega
      by_cases hkk : k = K
      · subst hkk
        have HD : Hid (decide (L = M) = true) := by
          rw [Hid, decide_eq_true_eq]
          have h := ht.out
          rw [List.take_of_length_le (by have := HN.out; omega), List.take_of_length_le (by have := HK.out; omega)] at h
          exact h
        clear ht
        go_wp2
        go_ret
        exact ⟨by rw [HD.out]; simp, below_drewN HB3.out _⟩
      · have HD : Hid (decide (L = M) = false) := by
          rw [Hid, decide_eq_false_iff_not]
          intro e
          have h1 := HN.out
          have h2 := HK.out
          rw [e] at h1
          omega
        clear ht
        go_wp2
        go_ret
        exact ⟨by rw [HD.out]; simp; omega, below_drewN HB3.out _⟩
end Go.Proofs.Ytamnacgclhaggab
