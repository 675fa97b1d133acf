/- Windings of the model: two rings, steps along, their sum, falls. -/
import Derived.Test.YtbfdbnminjhocaaWindM
import Derived.Test.YtbfdbnminjhocaaMB
import Derived.Test.YtbfdbnminjhocaaTwo
import Derived.Test.YtbfdbnminjhocaaMA
import Derived.BigQuiet
import Derived.Deep.QuietTactic
namespace Go.Proofs.Ytbfdbnminjhocaa
open Go.ChangeShapes Go.WideShapes Go.ChangeAt Go.RowKit

theorem pathL_snocI (a b : List Int) (k : Nat) (h : k < a.length) : ints ((pathL a b).take k) ++ [.int .i64 (stepN a b k)] = ints ((pathL a b).take (k + 1)) := by
  rw [← pathL_snoc a b k h]
  simp [ints]
theorem twoS_any (A0 : Option Addr) (n0 c0 : Nat) (A1 : Option Addr) (n1 c1 H : Nat) (l0 l1 : List Int) (w : World) (h0 : Rd w H A0 n0 l0) (h1 : Rd w H A1 n1 l1) (hn0 : n0 ≤ 1048576) (hn1 : n1 ≤ 1048576) :
    Calls Try.prog 76 #[.slice A0 n0 c0, .slice A1 n1 c1] w fun e w' => e = .returned (.bool (twoB l0 l1)) ∧ w = w' := by
  have HR0 := Lib.hid (ringS_any A0 n0 c0 H l0 w h0 hn0)
  have HR1 := Lib.hid (ringS_any A1 n1 c1 H l1 w h1 hn1)
  have L0 := h0.len
  have L1 := h1.len
  have HT : Hid (twoB l0 l1 = (ringB l0 && (ringB l1 && decide ((n0 : Int) = (n1 : Int))))) := by
    rw [Hid, twoB, ringB, ringB, ← Bool.decide_and, ← Bool.decide_and, decide_eq_decide, TwoR, L0, L1]
    exact ⟨fun h => ⟨h.1, h.2.1, by have := h.2.2; omega⟩, fun h => ⟨h.1, h.2.1, by have := h.2.2; omega⟩⟩
  rw [HT.out]
  clear h0 h1 HT L0 L1
  generalize ringB l0 = b0 at *
  generalize ringB l1 = b1 at *
  cases b0 with
  | false =>
    go_enter Try.func76, Try.ntmps76
    go_wp2_with (go_at_call_of 53 (Value.slice A0 n0 c0); refine HR0.out.mono ?_; rintro e w' ⟨rfl, rfl⟩)
    go_ret
    exact ⟨rfl, rfl⟩
  | true =>
    cases b1 with
    | false =>
      go_enter Try.func76, Try.ntmps76
      go_wp2_with (first
        | (go_at_call_of 53 (Value.slice A0 n0 c0); refine HR0.out.mono ?_; rintro e w' ⟨rfl, rfl⟩)
        | (go_at_call_of 53 (Value.slice A1 n1 c1); refine HR1.out.mono ?_; rintro e w' ⟨rfl, rfl⟩))
      go_ret
      exact ⟨rfl, rfl⟩
    | true =>
      go_enter Try.func76, Try.ntmps76
      go_wp2_with (first
        | (go_at_call_of 53 (Value.slice A0 n0 c0); refine HR0.out.mono ?_; rintro e w' ⟨rfl, rfl⟩)
        | (go_at_call_of 53 (Value.slice A1 n1 c1); refine HR1.out.mono ?_; rintro e w' ⟨rfl, rfl⟩))
      go_ret
      exact ⟨by first | rfl | simp, rfl⟩

attribute [local go_sem ↓] apI_fold in
set_option maxRecDepth 10000 in
set_option maxHeartbeats 1000000 in
theorem pathS_any (A0 : Option Addr) (n c0 : Nat) (A1 : Option Addr) (n1 c1 H : Nat) (l0 l1 : List Int) (w : World) (h0 : Rd w H A0 n l0) (h1 : Rd w H A1 n1 l1) (hH : H ≤ w.heap.size) (hn3 : 1 ≤ n) (hn7 : n ≤ 7) (hn1 : 1 ≤ n1) (hn17 : n1 ≤ 7) (hm : ∀ x ∈ l0, x ∈ l1) :
    Calls Try.prog 77 #[.slice A0 n c0, .slice A1 n1 c1] w fun e w' => ∃ v, e = .returned v ∧ Own w' w.heap.size v (pathL l0 l1) ∧ Below w.heap.size w w' := by
  obtain ⟨i0, hi, hz0, hz1, hz2⟩ := info_parts int_info
  have HL := Lib.hid h0.len
  have HCL : Hid ((pathL l0 l1).length = n) := by rw [Hid, pathL_length]; exact HL.out
  have HST := Lib.hid (fun (V : World) (i : Nat) (hV : Rd V H A1 n1 l1) (hi : i < n) => st_any A1 n1 c1 H l1 (l0.getD i 0) (l0.getD ((i + 1) % n) 0) V hV hn1 hn17 (hm _ (getD_mem _ _ (by rw [HL.out]; exact hi))) (hm _ (getD_mem _ _ (by rw [HL.out]; exact Nat.mod_lt _ hn3))))
  have HSN := Lib.hid (fun k (hk : k < n) => pathL_snoc l0 l1 k (by rw [HL.out]; exact hk))
  have HSE : Hid (∀ k, stepN l0 l1 k = stepsI l1 (l0.getD k 0) (l0.getD ((k + 1) % n) 0)) := fun k => by rw [stepN, HL.out]
  have ho0 := own_empty w _ (Nat.le_refl _)
  have hb0 := (Below.refl w.heap.size w).alloc (Nat.le_refl _) (.cells #[] 3)
  have hr0 := h0.alloc hH (.cells #[] 3)
  have hr1 := h1.alloc hH (.cells #[] 3)
  clear h0 h1 hm
  go_enter Try.func77, Try.ntmps77
  go_wp2_with fail
  obtain ⟨W0, h0⟩ : ∃ W, W = w.alloc (.cells #[] 3) := ⟨_, rfl⟩
  rw [← h0] at ho0 hb0 hr0 hr1 ⊢
  clear h0
  generalize hC : pathL l0 l1 = C at *
  have HC := Lib.hid hC
  clear hC
  have hsz : w.heap.size ≤ w.heap.size := Nat.le_refl _
  go_loopw [5, 6] (fun v i wr => ∃ k : Nat, k ≤ n ∧ i = .int .i64 k ∧ Hid (Own wr w.heap.size v (C.take k)) ∧ Rd wr H A0 n l0 ∧ Rd wr H A1 n1 l1 ∧ Below w.heap.size w wr) (fun _ i _ => n - (intOf i).toNat)
  case atStart => exact ⟨0, Nat.zero_le _, rfl, by simpa [Hid] using ho0, hr0, hr1, hb0⟩
  case round =>
    obtain ⟨k, hk, rfl, hown, hrd, hrd1, hbl⟩ := hrel
    clear ho0 hb0 hr0 hr1
    by_cases hlt : k < n
    · obtain ⟨b, o, rfl, hbH, hcs⟩ := hrd.at_ (by omega)
      have hmod : (k + 1) % n < n := Nat.mod_lt _ (by omega)
      have hc := hcs k hlt
      have hc1 := hcs ((k + 1) % n) hmod
      have hsn := HSN.out k hlt
      rw [HSE.out] at hsn
      have HT := Lib.hid (HST.out wr.drew k hrd1.drew hlt)
      have hmi : ((k : Int) + 1) % (n : Int) < (n : Int) := Int.emod_lt_of_pos _ (by omega)
      have hmo : 0 ≤ ((k : Int) + 1) % (n : Int) := Int.emod_nonneg _ (by omega)
      have hw1 : IntKind.i64.wrap ((k : Int) + 1) = (k : Int) + 1 := IntWalk.i64_in _ (by omega)
      have htm : Int.tmod ((k : Int) + 1) (n : Int) = ((k : Int) + 1) % (n : Int) := Int.tmod_eq_emod_of_nonneg (by omega)
      have htn : (((k : Int) + 1) % (n : Int)).toNat = (k + 1) % n := by
        have e : ((k : Int) + 1) % (n : Int) = (((k + 1) % n : Nat) : Int) := by simp
        rw [e, Int.toNat_natCast]
      have hnz : ¬ n = 0 := by omega
      have hw2 : IntKind.i64.wrap (((k : Int) + 1) % (n : Int)) = ((k : Int) + 1) % (n : Int) := IntWalk.i64_in _ (by omega)
      clear hcs
      generalize l0.getD k 0 = x at hc hsn HT
      generalize l0.getD ((k + 1) % n) 0 = y at hc1 hsn HT
      have HSN' := Lib.hid hsn
      clear hsn
      have HOV : Hid (Own wr.drew w.heap.size _ (C.take k)) := hown.out.drew
      have HBV := Lib.hid hbl.drew
      obtain ⟨v', w1, hrun, hown', hgrow⟩ := apI_run HOV.out HBV.out.size (by rw [List.length_take]; omega) (stepsI l1 x y)
      have hrun' : ∀ ty, (apI #[23, 23] ty #[_, .slice (some ⟨wr.heap.size, 0, none⟩) 1 1]).run Try.prog (wr.alloc (.cells #[.int .i64 (stepsI l1 x y)] 3)).drew = .ok v' w1 := hrun
      clear hrun
      rw [HSN'.out] at hown'
      have HO := Lib.hid hown'
      have hb1 := Lib.hid (apI_below HOV.out hgrow (Nat.le_refl _) HBV.out HBV.out.size)
      have hr1 := Lib.hid (hrd.drew.below (apI_below HOV.out hgrow hH (Below.refl H wr.drew) (Nat.le_trans hH hbl.size)))
      have hr2 := Lib.hid (hrd1.drew.below (apI_below HOV.out hgrow hH (Below.refl H wr.drew) (Nat.le_trans hH hbl.size)))
      clear hown' hgrow hown hrd1 hbl HOV HST hrd
      go_wp2_with fail
      go_region_with (go_at_call 96; refine HT.out.mono ?_; rintro e w' ⟨rfl, rfl⟩)
      all_goals
        go_wp2
        go_roundw
        case rel => exact ⟨k + 1, by omega, by go_num, HO, hr1.out, hr2.out, hb1.out⟩
        case measure => simp [intOf]; omega
    · obtain rfl : k = n := by omega
      go_wp2
      go_ret
      refine ⟨_, rfl, ?_, hbl⟩
      have := hown.out
      rw [List.take_of_length_le (by rw [HCL.out]; omega)] at this
      rw [HC.out]
      exact this

set_option maxHeartbeats 1000000 in
theorem windS_any (A0 : Option Addr) (n c0 : Nat) (A1 : Option Addr) (n1 c1 H : Nat) (l0 l1 : List Int) (w : World) (h0 : Rd w H A0 n l0) (h1 : Rd w H A1 n1 l1) (hH : H ≤ w.heap.size) (hn3 : 1 ≤ n) (hn7 : n ≤ 7) (hn1 : 1 ≤ n1) (hn17 : n1 ≤ 7) (hm : ∀ x ∈ l0, x ∈ l1) :
    Calls Try.prog 81 #[.slice A0 n c0, .slice A1 n1 c1] w fun e w' => e = .returned (.int .i64 (windL l0 l1)) ∧ Below w.heap.size w w' := by
  have HP := Lib.hid (pathS_any A0 n c0 A1 n1 c1 H l0 l1 w h0 h1 hH hn3 hn7 hn1 hn17 hm)
  have HLn := Lib.hid h0.len
  have HPL : Hid ((pathL l0 l1).length = n) := by rw [Hid, pathL_length]; exact HLn.out
  have HWD : Hid (windL l0 l1 = sumN (fun i => (pathL l0 l1).getD i 0) n / (n : Int)) := by rw [Hid, windL, ← windL_sum, HLn.out]
  have hb1 : 1 ≤ l1.length := by rw [h1.len]; exact hn1
  have hb7 : l1.length ≤ 7 := by rw [h1.len]; exact hn17
  have HBD : Hid (∀ i, i < n → 0 ≤ (pathL l0 l1).getD i 0 ∧ (pathL l0 l1).getD i 0 ≤ 6) := fun i hi => by
    rw [pathL_get l0 l1 i (by rw [HLn.out]; exact hi)]
    have := stepN_bd l0 l1 hb1 i
    omega
  rw [HWD.out]
  clear h0 h1 hm HLn hb1 hb7 HWD
  generalize pathL l0 l1 = C at *
  go_enter Try.func81, Try.ntmps81
  go_wp2_with fail
  refine HP.out.mono ?_
  rintro e w1 ⟨v, rfl, ho, hb⟩
  obtain ⟨g, cap, rfl, hgB, hgs, hnc, hcm, hcs⟩ := ownHead ho (by rw [HPL.out]; omega)
  rw [HPL.out] at hnc hcs ⊢
  have HB := Lib.hid hb
  have HCS := Lib.hid hcs
  clear ho hb hcs HP
  go_wp2
  go_loopw [5, 7] (fun s i wr => ∃ k : Nat, k ≤ n ∧ s = .int .i64 (sumN (fun i => C.getD i 0) k) ∧ i = .int .i64 k ∧ wr = w1) (fun _ i _ => n - (intOf i).toNat)
  case atStart => exact ⟨0, Nat.zero_le _, rfl, rfl, rfl⟩
  case round =>
    obtain ⟨k, hk, rfl, rfl, rfl⟩ := hrel
    by_cases hlt : k < n
    · have hc := HCS.out k hlt
      have hs := sumN_bd k (fun i (hi : i < k) => HBD.out i (by omega))
      have hx := HBD.out k hlt
      have HS : Hid (sumN (fun i => C.getD i 0) k + C.getD k 0 = sumN (fun i => C.getD i 0) (k + 1)) := rfl
      generalize sumN (fun i => C.getD i 0) k = s at *
      generalize C.getD k 0 = x at hc hx HS
      go_wp2
      go_roundw
      case rel => exact ⟨k + 1, by omega, by rw [← HS.out], by go_num, by simp⟩
      case measure => simp [intOf]; omega
    · obtain rfl : k = n := by omega
      have hs := sumN_bd k (fun i (hi : i < k) => HBD.out i hi)
      generalize hS : sumN (fun i => C.getD i 0) k = s at *
      have HSS := Lib.hid hS
      clear hS
      have hs0 : 0 ≤ s := by omega
      have hq : Int.tdiv s (k : Int) = s / (k : Int) := Int.tdiv_eq_ediv_of_nonneg hs0
      have hq0 : 0 ≤ s / (k : Int) := Int.ediv_nonneg hs0 (by omega)
      have hq1 : s / (k : Int) ≤ s := Int.ediv_le_self _ hs0
      have hw : wrap64 (s / (k : Int)) = s / (k : Int) := IntWalk.wrap64_in _ (by omega)
      go_wp2
      go_ret
      exact ⟨by rw [HSS.out]; rfl, HB.out⟩

set_option maxHeartbeats 1000000 in
theorem fallsS_any (A0 : Option Addr) (n c0 H : Nat) (l0 : List Int) (w : World) (h0 : Rd w H A0 n l0) (hn3 : 1 ≤ n) (hn7 : n ≤ 7) :
    Calls Try.prog 61 #[.slice A0 n c0] w fun e w' => e = .returned (.int .i64 (fallsL l0)) ∧ ∃ p, w' = w.drewN p := by
  obtain ⟨b, o, rfl, hbH, hcs⟩ := h0.at_ (by omega)
  have HLn := Lib.hid h0.len
  have HFD : Hid (∀ k, fallsN l0 k = if l0.getD ((k + 1) % n) 0 < l0.getD k 0 then 1 else 0) := fun k => by rw [fallsN, HLn.out]
  have HFL : Hid (fallsL l0 = sumN (fallsN l0) n) := by rw [Hid, fallsL, HLn.out]
  have HCS : Hid (∀ V : World, (∃ p, V = w.drewN p) → ∀ k, k < n → V.cell? ⟨b, o + k, none⟩ = some (.int .i64 (l0.getD k 0))) := by rintro V ⟨p, rfl⟩ k hk; exact hcs k hk
  have HBD := Lib.hid (fallsN_bd l0)
  rw [HFL.out]
  clear h0 HLn HFL hcs
  go_enter Try.func61, Try.ntmps61
  go_wp2
  go_loopw [3, 4] (fun s i wr => ∃ k : Nat, k ≤ n ∧ s = .int .i64 (sumN (fallsN l0) k) ∧ i = .int .i64 k ∧ ∃ p, wr = w.drewN p) (fun _ i _ => n - (intOf i).toNat)
  case atStart => exact ⟨0, Nat.zero_le _, rfl, rfl, 0, rfl⟩
  case round =>
    obtain ⟨k, hk, rfl, rfl, hwr⟩ := hrel
    by_cases hlt : k < n
    · have hc := HCS.out wr hwr k hlt
      have hc1 := HCS.out wr hwr ((k + 1) % n) (Nat.mod_lt _ (by omega))
      have hs := sumN_bd k (fun i (_ : i < k) => HBD.out i)
      have hmi : ((k : Int) + 1) % (n : Int) < (n : Int) := Int.emod_lt_of_pos _ (by omega)
      have hmo : 0 ≤ ((k : Int) + 1) % (n : Int) := Int.emod_nonneg _ (by omega)
      have hw1 : IntKind.i64.wrap ((k : Int) + 1) = (k : Int) + 1 := IntWalk.i64_in _ (by omega)
      have htm : Int.tmod ((k : Int) + 1) (n : Int) = ((k : Int) + 1) % (n : Int) := Int.tmod_eq_emod_of_nonneg (by omega)
      have htn : (((k : Int) + 1) % (n : Int)).toNat = (k + 1) % n := by
        have e : ((k : Int) + 1) % (n : Int) = (((k + 1) % n : Nat) : Int) := by simp
        rw [e, Int.toNat_natCast]
      have hw2 : IntKind.i64.wrap (((k : Int) + 1) % (n : Int)) = ((k : Int) + 1) % (n : Int) := IntWalk.i64_in _ (by omega)
      have HF := Lib.hid (HFD.out k)
      have HS : Hid (sumN (fallsN l0) k + fallsN l0 k = sumN (fallsN l0) (k + 1)) := rfl
      have hnz : ¬ n = 0 := by omega
      obtain ⟨p, hp⟩ := hwr
      have HP := Lib.hid hp
      clear hp
      generalize sumN (fallsN l0) k = s at *
      generalize fallsN l0 k = f at *
      generalize l0.getD k 0 = x at hc HF
      generalize l0.getD ((k + 1) % n) 0 = y at hc1 HF
      by_cases hyx : y < x
      · have HF1 : Hid (f = 1) := by rw [Hid, HF.out, if_pos hyx]
        have hd : decide (y < x) = true := by simpa using hyx
        clear HF hyx
        go_wp2_with fail
        go_quiet (fail)
        clear hc hc1 hmi hmo hw1 htm htn hw2
        go_wp2
        go_roundw
        case rel => exact ⟨k + 1, by omega, by rw [← HS.out, HF1.out], by go_num, p + nq, by rw [HP.out, World.drewN_drewN]⟩
        case measure => simp [intOf]; omega
      · have HF1 : Hid (f = 0) := by rw [Hid, HF.out, if_neg hyx]
        have hd : decide (y < x) = false := by simpa using hyx
        clear HF hyx
        go_wp2_with fail
        go_quiet (fail)
        clear hc hc1 hmi hmo hw1 htm htn hw2
        go_wp2
        go_roundw
        case rel => exact ⟨k + 1, by omega, by rw [← HS.out, HF1.out]; simp, by go_num, p + nq, by rw [HP.out, World.drewN_drewN]⟩
        case measure => simp [intOf]; omega
    · obtain rfl : k = n := by omega
      go_wp2
      go_ret
      exact ⟨rfl, hwr⟩
end Go.Proofs.Ytbfdbnminjhocaa
