/- Steps along add up to windings: the law FnPath. -/
import Derived.Test.YtbfdbnminjhocaaDraw12
import Derived.Test.YtbfdbnminjhocaaWindO
import Derived.Test.YtbfdbnminjhocaaSameI
namespace Go.Proofs.Ytbfdbnminjhocaa
open Go.ChangeShapes Go.WideShapes Go.ChangeAt Go.RowKit

set_option maxRecDepth 10000 in
set_option maxHeartbeats 4000000 in
theorem law_Path (a0 : Option Addr) (len0 cap0 : Nat) (z0 : List Int) (w : World) (w0 : IsRow .u8 w a0 len0 cap0 z0) :
    Calls Try.prog 7 #[.slice a0 len0 cap0] w fun e w' => e = .returned (.bool true) ∧ Below w.heap.size w w' := by
  obtain ⟨h, hlc, hcm⟩ := byt_of_row w0
  have HD := Lib.hid (drawWindPath_any len0 cap0 w.heap.size a0 w h (Nat.le_refl _) hlc hcm)
  clear w0 h
  by_cases hn : len0 ≤ 1048576
  rotate_left
  · go_enter Try.func7, Try.ntmps7
    go_wp2_with fail
    go_ret
    exact ⟨rfl, Below.refl _ _⟩
  go_enter Try.func7, Try.ntmps7
  go_wp2_with fail
  refine HD.out.mono ?_
  rintro e w1 ⟨v, v', l, p, rfl, ⟨A1, n1, c1, rfl, hr1⟩, ⟨A9, n9, c9, rfl, hr9⟩, hl, hb⟩
  have HB := Lib.hid hb
  have HR1 := Lib.hid hr1
  have HR9 := Lib.hid hr9
  clear hb hr1 hr9 HD
  have HC := Lib.hid (cI_WindPath HR1.out HR9.out)
  go_wp2_with fail
  refine HC.out.mono ?_
  rintro e w2 ⟨v, rfl, ⟨A2, n2, c2, rfl, hr⟩, hb⟩
  replace HB := Lib.hid (bl_step HB.out hb)
  replace HR1 := Lib.hid (HR1.out.step hb)
  replace HR9 := Lib.hid (HR9.out.step hb)
  have HR2 := Lib.hid hr
  clear hr
  clear hb HC
  have HC := Lib.hid (cS_WindPath HR1.out HR9.out)
  go_wp2_with fail
  refine HC.out.mono ?_
  rintro e w3 ⟨v, rfl, ⟨A3, n3, c3, rfl, hr⟩, hb⟩
  replace HB := Lib.hid (bl_step HB.out hb)
  replace HR1 := Lib.hid (HR1.out.step hb)
  replace HR9 := Lib.hid (HR9.out.step hb)
  replace HR2 := Lib.hid (HR2.out.step hb)
  have HR3 := Lib.hid hr
  clear hr
  clear hb HC
  have HS := Lib.hid (fun (W : World) (hb : Below w3.heap.size w3 W) => sameI_any (HR2.out.step hb) (HR3.out.step hb))
  rw [same_self] at HS
  by_cases hk : TwoR l p
  rotate_left
  · rw [(twoNo hk)]
    clear hk HR1 HR9 HR2 HR3
    have HZ := Lib.hid (Below.refl w3.heap.size w3)
    go_wp2_with (first | (go_at_call 25; refine (HS.out _ (by first | exact HZ.out | exact HZ.out.drew)).mono ?_; rintro e wz ⟨rfl, hb⟩; replace HZ := Lib.hid (bl_step HZ.out hb); clear hb))
    go_ret
    exact ⟨rfl, bl_step HB.out HZ.out⟩
  rw [(twoYes hk)]
  have ER : wpR l p = pathL l p := by rw [wpR, if_pos hk]
  rw [ER] at HR2
  have E2 : Hid (twoB l p = true ∧ woR l p = windL l p) := ⟨twoYes hk, by rw [woR, if_pos hk]⟩
  have hln := HR1.out.len
  have h3 : 3 ≤ n1 := by have := hk.1.1.1; omega
  have h7 := HR1.out.2.2.2
  have hn2 : n1 = n2 := by have := HR2.out.len; rw [pathL_length] at this; omega
  subst hn2
  have hsum : Hid (sumL (pathL l p) = windL l p * (n1 : Int)) := by
    rw [Hid, sumL, pathL_length, windL_sum, (wind_sum hk.w2).1, hln, Int.mul_comm]
  have hwd := windL_bd l p (by omega) hk.2.2
  have hpb : Hid (∀ k, k < n1 → -1000000 ≤ (pathL l p).getD k 0 ∧ (pathL l p).getD k 0 ≤ 1000000) := fun k hkn => by
    have := stepN_bd l p (by have := hk.2.1.1.1; omega) k
    have hpl := hk.2.2
    rw [pathL_get l p k (by omega)]; omega
  have hst : Hid (∀ k, k < n1 → hasB2 p (l.getD k 0) (l.getD ((k + 1) % n1) 0) = true ∧ stepsR p (l.getD k 0) (l.getD ((k + 1) % n1) 0) = (pathL l p).getD k 0) := fun k hkn => by
    have hin : ∀ j, j < n1 → l.getD j 0 ∈ p := fun j hj => by
      have := hk.1.1.2.2.1 _ (getD_mem l j (by omega))
      have hpl := hk.2.2
      exact hk.2.1.1.has this.1 (by omega)
    have hb : hasB2 p (l.getD k 0) (l.getD ((k + 1) % n1) 0) = true := by rw [hasB2, hasB_of hk.2.1 (hin k hkn), hasB_of hk.2.1 (hin _ (Nat.mod_lt _ (by omega)))]; rfl
    refine ⟨hb, ?_⟩
    rw [stepsR, if_pos hb, pathL_get l p k (by omega), stepN, hln]
  have HLN := Lib.hid hln
  clear hk ER hln
  have HZ := Lib.hid (Below.refl w3.heap.size w3)
  go_wp2_with (first | (go_at_call 25; refine (HS.out _ (by first | exact HZ.out | exact HZ.out.drew)).mono ?_; rintro e wz ⟨rfl, hb⟩; replace HZ := Lib.hid (bl_step HZ.out hb); clear hb))
  replace HB := Lib.hid (bl_step HB.out HZ.out)
  replace HR1 := Lib.hid (HR1.out.step HZ.out)
  replace HR9 := Lib.hid (HR9.out.step HZ.out)
  replace HR2 := Lib.hid (HR2.out.step HZ.out)
  clear HR3
  clear HZ HS
  have HC := Lib.hid (cI_WindOf HR1.out HR9.out)
  rw [E2.out.1, E2.out.2] at HC
  go_wp2_with fail
  refine HC.out.mono ?_
  rintro e w4 ⟨rfl, hb⟩
  replace HB := Lib.hid (bl_step HB.out hb)
  replace HR1 := Lib.hid (HR1.out.step hb)
  replace HR9 := Lib.hid (HR9.out.step hb)
  replace HR2 := Lib.hid (HR2.out.step hb)
  clear hb HC
  generalize windL l p = d at *
  obtain ⟨b, o, e, hbb, hcs⟩ := HR1.out.at_ (by omega)
  subst e
  obtain ⟨b', o', e, hbb', hcs'⟩ := HR2.out.at_ (by omega)
  subst e
  have HK := Lib.hid (fun (W : World) (hb : Below w4.heap.size w4 W) (k : Nat) (hk : k < n1) => (⟨(hb.cell (p := ⟨b, o + k, none⟩) hbb).trans (hcs k hk), (hb.cell (p := ⟨b', o' + k, none⟩) hbb').trans (hcs' k hk)⟩ : W.cell? ⟨b, o + k, none⟩ = some (.int .i64 (l.getD k 0)) ∧ W.cell? ⟨b', o' + k, none⟩ = some (.int .i64 ((pathL l p).getD k 0))))
  clear hcs hcs' E2
  have HZ0 := Lib.hid (Below.refl w4.heap.size w4)
  go_wp2
  go_loopw [11] (fun i wr => ∃ k : Nat, k ≤ n1 ∧ i = .int .i64 k ∧ Hid (Below w4.heap.size w4 wr)) (fun i _ => n1 - (intOf i).toNat)
  case atStart => exact ⟨0, Nat.zero_le _, rfl, HZ0⟩
  case round =>
    obtain ⟨k, hk, rfl, hZ⟩ := hrel
    clear HZ0
    by_cases hlt : k < n1
    · obtain ⟨q, hq⟩ : ∃ q, q = (k + 1) % n1 := ⟨_, rfl⟩
      have hqn : q < n1 := by rw [hq]; exact Nat.mod_lt _ (by omega)
      have t1 : Int.tmod ((k : Int) + 1) (n1 : Int) = (q : Int) := by
        rw [Int.tmod_eq_emod_of_nonneg (by omega), hq]; simp
      have hw : IntKind.i64.wrap ((k : Int) + 1) = (k : Int) + 1 := IntWalk.i64_in _ (by omega)
      have hwq : IntKind.i64.wrap (q : Int) = (q : Int) := IntWalk.i64_in _ (by omega)
      have g0 : ((n1 : Int) == 0) = false := by simp; omega
      have g2 : ¬ n1 = 0 := by omega
      have hki : (k : Int) < (n1 : Int) := by omega
      have hqi : (q : Int) < (n1 : Int) := by omega
      have hst' := hst.out k hlt
      rw [← hq] at hst'
      have HC := Lib.hid (fun (W : World) (hb : Below w4.heap.size w4 W) => cI_RingSteps (HR9.out.step hb) (l.getD k 0) (l.getD q 0))
      rw [hst'.1, hst'.2] at HC
      have HKk := Lib.hid (fun (W : World) (hb : Below w4.heap.size w4 W) => (⟨(HK.out W hb k hlt).1, (HK.out W hb q hqn).1⟩ : W.cell? ⟨b, o + k, none⟩ = some (.int .i64 (l.getD k 0)) ∧ W.cell? ⟨b, o + q, none⟩ = some (.int .i64 (l.getD q 0))))
      have HKo := Lib.hid (fun (W : World) (hb : Below w4.heap.size w4 W) => (HK.out W hb k hlt).2)
      have HZ := Lib.hid hZ.out.drew
      clear hst' HK hst hq hpb hsum HR1 HR2 HR9
      generalize (pathL l p).getD k 0 = f at *
      generalize l.getD k 0 = x at *
      generalize l.getD q 0 = y at *
      go_wp2_with fail
      go_region_held3 (fun V => V.cell? ⟨b, o + k, none⟩ = some (.int .i64 x) ∧ V.cell? ⟨b, o + q, none⟩ = some (.int .i64 y))
        (first
          | exact HKk.out _ HZ.out
          | exact HKk.out _ H1.out)
        (first
          | (go_at_call 16; refine (HC.out _ HZ.out).mono ?_; rintro e wx ⟨rfl, hb⟩; have H1 := Lib.hid (bl_step HZ.out hb); clear hb))
      all_goals
        have hco := HKo.out _ H1.out
        have hbf : (f != f) = false := by simp
        clear HKk HKo HC
        go_wp2
        go_roundw
        case rel => exact ⟨k + 1, by omega, by go_num, H1⟩
        case measure => simp [intOf]; omega
    · obtain rfl : k = n1 := by omega
      have HT := Lib.hid (fun (W : World) (hb : Below w4.heap.size w4 W) => total_any (HR2.out.step hb) hpb.out)
      rw [hsum.out] at HT
      have hm1 : 0 ≤ d * (k : Int) := Int.mul_nonneg (by omega) (by omega)
      have hm2 : d * (k : Int) ≤ 7 * 7 := Int.mul_le_mul (by omega) (by omega) (by omega) (by omega)
      have hw : IntKind.i64.wrap (d * (k : Int)) = d * (k : Int) := IntWalk.i64_in _ (by omega)
      clear HK hst hpb hsum HR1 HR2 HR9 hm1 hm2
      have HZ := hZ
      go_wp2_with (go_at_call 28; refine (HT.out _ (by first | exact HZ.out | exact HZ.out.drew)).mono ?_; rintro e wx ⟨rfl, hb⟩; replace HZ := Lib.hid (bl_step HZ.out hb); clear hb)
      go_ret
      exact ⟨rfl, bl_step HB.out HZ.out⟩
end Go.Proofs.Ytbfdbnminjhocaa
