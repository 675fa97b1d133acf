/- SwapNear of the program. -/
import Derived.Test.YtamnacgclhaggabSwQ
import Derived.Test.YtamnacgclhaggabPR
namespace Go.Proofs.Ytamnacgclhaggab
open Go.ChangeShapes Go.WideShapes Go.ChangeAt Go.RowKit

theorem GrowX.empty {B : Nat} (w : World) (hB : B ≤ w.heap.size) : GrowX (w.alloc (.cells #[] 23)) B (.slice (some ⟨w.heap.size, 0, none⟩) 0 0) [] [] := by
  refine ⟨⟨by simp, .inr ⟨w.heap.size, 0, #[], rfl, hB, heap_alloc_new w _, Nat.le_refl _, by decide, by simp, by simp⟩⟩, fun k hk => by simp at hk, ?_⟩
  intros
  simp_all
theorem sumTo_bd (L : List (List Int)) (m : Nat) (h : ∀ l ∈ L, l.length ≤ m) : ∀ k, k ≤ L.length → sumTo L k ≤ m * k
  | 0, _ => by simp [sumTo]
  | k + 1, hk => by
    have ih := sumTo_bd L m h k (by omega)
    have := h _ (rowK_mem (M := L) (k := k) (by omega))
    rw [sumTo, Nat.mul_succ]
    omega
theorem snR_tot (l : List Int) : tot (snR l) ≤ 1048576 := by
  unfold snR
  split
  · rename_i h
    have h7 := h.1.2.1
    have hf := (facM_eq7 l.length h.1.1 h7).2.1
    have hl : (nearL l).length ≤ 720 := by rw [← nearTo_full]; exact Nat.le_trans (nearTo_len l _) hf
    have hs := sumTo_bd (nearL l) 7 (fun r hr => by
      unfold nearL at hr
      obtain ⟨k, _, rfl⟩ := List.mem_map.1 hr
      rw [byL_length]; exact h7) _ (Nat.le_refl _)
    unfold tot; omega
  · simp [tot, sumTo]
theorem nearK_mem {l : List Int} (h : Tell l) : ∀ k ∈ nearK l, 0 ≤ k ∧ k < facN (l.length - 1) := fun k hk => by
  unfold nearK at hk
  simp only [List.mem_map, List.mem_filter, List.mem_range, decide_eq_true_eq] at hk
  obtain ⟨j, ⟨_, hj⟩, rfl⟩ := hk
  exact nums_bd h _ hj

attribute [local go_sem ↓] ldR_fold stR_fold in
set_option maxRecDepth 10000 in
set_option maxHeartbeats 2000000 in
theorem snI_any (A : Option Addr) (n c H : Nat) (l : List Int) (w : World) (h : Rd w H A n l) (hH : H ≤ w.heap.size) (hn : n ≤ 1048576) (hnc : n ≤ c) (hcm : c ≤ 9223372036854775807) :
    Calls Try.prog 38 #[.slice A n c] w fun e w' => ∃ v, e = .returned (.tuple #[v, .bool (ringB l)]) ∧ OwnS w' w.heap.size w'.heap.size v (snR l) ∧ Below w.heap.size w w' := by
  have HL := Lib.hid h.len
  have HR := Lib.hid (readR_any A n c H l w h hH hn hnc hcm)
  have h7 := ringP_length l
  clear h
  by_cases hr : Ring l
  rotate_left
  · rw [snR, if_neg hr, ring_no hr]
    rw [ring_no hr] at HR
    clear hr
    generalize ringP l = P at *
    go_enter Try.func38, Try.ntmps38
    go_wp2_with fail
    refine HR.out.mono ?_
    rintro e W1 ⟨rfl, hb1⟩
    obtain ⟨W2, r2, hx2, hg2, hs2⟩ := stR_run (Q := P) (new_ring W1) rfl h7
    have HB := Lib.hid ((hb1.alloc hb1.size (.cells #[.int .i64 0, .int .i64 0, .int .i64 0, .int .i64 0, .int .i64 0, .int .i64 0, .int .i64 0] 50)).grown hg2 (by have := hb1.size; simp; omega) (by have := hb1.size; simp; omega))
    clear hb1 hx2 hg2 hs2
    go_wp2_with fail
    go_ret2
    exact ⟨_, rfl, .inl ⟨rfl, rfl⟩, HB.out⟩
  obtain ⟨i0, hi, hz0, hz1, hz2⟩ := info_parts row_info
  have h3 := hr.1.1
  have hl7 := hr.1.2.1
  have HSN := Lib.hid (fun V => swapNumbers_any l V hr.1)
  have HEQ := Lib.hid (near_eq hr.1)
  have HMK := Lib.hid (nearK_mem hr.1)
  have HF := facM_eq7 l.length h3 hl7
  have hrp : ringP l = padR l := by rw [ringP, if_pos hr]
  have HNE : Hid (snR l = (nearK l).map (byL l.length)) := by rw [Hid, snR, if_pos hr]; rfl
  have HCL := Lib.hid (compact_length (sortI (numsL l)))
  rw [HEQ.out, sortI_length, numsL_length, HL.out] at HCL
  have HSL : Hid ((sortI (numsL l)).length = n) := by rw [Hid, sortI_length, numsL_length, HL.out]
  have HNL : Hid ((numsL l).length = n) := by rw [Hid, numsL_length, HL.out]
  rw [HNE.out, ring_yes hr]
  rw [hrp] at HR h7
  rw [ring_yes hr] at HR
  rw [HL.out] at h3 hl7 HSN HMK HF ⊢
  have HK : ∀ k : Int, 0 ≤ k ∧ k < facN (n - 1) → 0 ≤ k ∧ k < facN n := fun k hk => ⟨hk.1, by have := HF.2.2.2; omega⟩
  have HBY := Lib.hid (fun (k : Int) (hk : 0 ≤ k ∧ k < facN (n - 1)) V => numbered_any n k V h3 hl7 (HK k hk).1 (HK k hk).2)
  have HLI := Lib.hid (fun (k : Int) (hk : 0 ≤ k ∧ k < facN (n - 1)) V => list_any (byL n k) V (by rw [byL_length]; omega) (by rw [byL_length]; exact hl7) (byL_pos n k hl7 (HK k hk).1 (HK k hk).2))
  have H77 := Lib.hid (fun (k : Int) => padR_length (byL n k) (by rw [byL_length]; exact hl7))
  have HBL := Lib.hid (fun k : Int => byL_length n k)
  have HCO := Lib.hid (fun g V B (hO : Own V B (.slice (some ⟨g, 0, none⟩) n n) (sortI (numsL l))) => compact_own g n n B _ V hO HSL.out hn)
  rw [HEQ.out] at HCO
  have HSO := Lib.hid (fun g V B (hO : Own V B (.slice (some ⟨g, 0, none⟩) n n) (numsL l)) => sort_own g n n B _ V hO HNL.out hn)
  unfold agp at HSN HBY HLI
  clear hr hrp HF HK HEQ HNE HSL HNL
  generalize sortI (numsL l) = ZS at *
  generalize numsL l = NS at *
  generalize nearK l = NK at *
  generalize padR l = P at *
  obtain ⟨a0, a1, a2, a3, a4, a5, a6, rfl⟩ := seven h7
  simp only [ints, List.map_cons, List.map_nil] at HSN HR
  have HT : Hid (∀ k, k < NK.length → (NK.map (byL n)).take (k + 1) = (NK.map (byL n)).take k ++ [byL n (NK.getD k 0)]) := fun k hk => by
    rw [List.take_succ_eq_append_getElem (by simpa using hk)]
    simp [List.getD, hk]
  have HNM : Hid (∀ k, k < NK.length → 0 ≤ NK.getD k 0 ∧ NK.getD k 0 < facN (n - 1)) := fun k hk => HMK.out _ (getD_mem NK k hk)
  have HFU : Hid ((NK.map (byL n)).take NK.length = NK.map (byL n)) := List.take_of_length_le (by simp)
  have HTL : Hid (∀ k, k ≤ NK.length → ((NK.map (byL n)).take k).length = k) := fun k hk => by simp; omega
  generalize NK.map (byL n) = M at *
  go_enter Try.func38, Try.ntmps38
  go_wp2_with fail
  refine HR.out.mono ?_
  rintro e W1 ⟨rfl, hb1⟩
  obtain ⟨W2, r2, hx2, hg2, hs2⟩ := stR_run (Q := [a0, a1, a2, a3, a4, a5, a6]) (new_ring W1) rfl rfl
  have HB := Lib.hid ((hb1.alloc hb1.size (.cells #[.int .i64 0, .int .i64 0, .int .i64 0, .int .i64 0, .int .i64 0, .int .i64 0, .int .i64 0] 50)).grown hg2 (by have := hb1.size; simp; omega) (by have := hb1.size; simp; omega))
  have l2 := ldR_run hx2 rfl
  simp only [ints, List.map_cons, List.map_nil] at r2 l2
  clear hb1 hx2 hg2 hs2
  go_wp2_with fail
  refine (HSN.out W2).mono ?_
  rintro e W3 ⟨g, rfl, ho3, hb3⟩
  have HO3 := Lib.hid ho3
  have HB3 := Lib.hid (HB.out.trans (hb3.mono HB.out.size))
  have hg3 := ho3.lt _ rfl
  have hs3 := HB.out.size
  clear ho3 hb3 r2 l2
  go_wp2_with fail
  refine (HSO.out g W3 _ HO3.out).mono ?_
  rintro e W4 ⟨rfl, ho4, hg4⟩
  have HO4 := Lib.hid ho4
  have HB4 := Lib.hid (HB3.out.grown hg4 (by have := hg3.1; have := hg3.2; omega) (by intro i hi; have e : g = i := Option.some.inj hi; have := hg3.1; omega))
  have hs4 := hg4.size
  clear ho4 hg4
  obtain ⟨D, hD⟩ : ∃ D, D = W4.heap.size := ⟨_, rfl⟩
  have HX5 : Hid (GrowX (W4.alloc (.cells #[] 23)) D (.slice (some ⟨D, 0, none⟩) 0 0) [] []) := by rw [hD]; exact GrowX.empty W4 (Nat.le_refl _)
  have HO5 : Hid (Own (W4.alloc (.cells #[] 23)) W2.heap.size (.slice (some ⟨g, 0, none⟩) n n) ZS) := World.ownsRow.alloc HO4.out _
  have HB5 := Lib.hid (HB4.out.alloc HB4.out.size (.cells #[] 23))
  have hs5 : (W4.alloc (.cells #[] 23)).heap.size = D + 1 := by simp [hD]
  have hgD : g < D := by have := hg3.2; omega
  go_wp2_with fail
  rw [← hD]
  generalize W4.alloc (.cells #[] 23) = W5 at *
  clear hD
  refine (HCO.out g W5 _ HO5.out).mono ?_
  rintro e W6 ⟨rfl, ho6, hg6⟩
  have HO6 := Lib.hid ho6.rd.2
  have HX6 : Hid (GrowX W6 D (.slice (some ⟨D, 0, none⟩) 0 0) [] []) := by
    have hx := HX5.out
    refine ⟨hx.1.kept hg6 (.inr (by intro e; have e2 : D = g := Option.some.inj e; omega)), fun k hk => by simp at hk, ?_⟩
    intros
    simp_all
  have HB6 := Lib.hid (HB5.out.grown hg6 (by have := HB5.out.size; omega) (by intro i hi; have e : g = i := Option.some.inj hi; have := hg3.1; omega))
  have hs6 := hg6.size
  clear ho6 hg6 HX5 HO5 HB5 HO4 HB4 HO3 HB3 HB
  have hm : NK.length ≤ 7 := by have := HCL.out; omega
  go_wp2
  go_loopw [7, 25] (fun v i wr => ∃ k : Nat, k ≤ NK.length ∧ i = .int .i64 k ∧ (∃ xs, Hid (GrowX wr D v (M.take k) xs)) ∧ Hid (Below D W6 wr)) (fun _ i _ => NK.length - (intOf i).toNat)
  case atStart => exact ⟨0, by omega, rfl, ⟨[], HX6⟩, Below.refl _ _⟩
  case round =>
    obtain ⟨k, hk, rfl, ⟨xs, hx⟩, hbl⟩ := hrel
    clear HX6
    have hsD : D ≤ wr.heap.size := by have := hbl.out.size; omega
    by_cases hlt : k < NK.length
    · obtain ⟨b, o, e, hb, hcs⟩ := HO6.out.at_ (by omega)
      injection e with e
      injection e with e1 e2
      subst e1; subst e2
      have hc : wr.cell? ⟨g, k, none⟩ = some (.int .i64 (NK.getD k 0)) := by
        have h1 := hcs k hlt
        rw [Nat.zero_add] at h1
        exact (hbl.out.cell (p := ⟨g, k, none⟩) hgD).trans h1
      have HN := HNM.out k hlt
      have HC1 := Lib.hid (HBY.out _ HN)
      have HC2 := Lib.hid (HLI.out _ HN)
      have hll := HBL.out (NK.getD k 0)
      have h77 := H77.out (NK.getD k 0)
      have HST := Lib.hid (HT.out k hlt)
      have hkl := HTL.out k hk
      clear hcs hb HN
      generalize NK.getD k 0 = y at *
      generalize hR : byL n y = R at *
      clear hR
      generalize padR R = Q at *
      obtain ⟨q0, q1, q2, q3, q4, q5, q6, rfl⟩ := seven h77
      simp only [ints, List.map_cons, List.map_nil] at HC1 HC2
      go_wp2_with fail
      refine (HC1.out wr).mono ?_
      rintro e w3 ⟨rfl, hb3⟩
      have HB3 := Lib.hid hb3
      clear hc hb3
      go_wp2_with fail
      refine (HC2.out w3).mono ?_
      rintro e w4 ⟨v', rfl, ho, hb4⟩
      obtain ⟨Ar, cr, rfl⟩ := ho.slice
      have HRV := Lib.hid ((own_rowV5 ho).less HB3.out.size)
      have HB4 := Lib.hid (HB3.out.trans (hb4.mono HB3.out.size))
      have HBD := Lib.hid (hbl.out.trans (HB4.out.mono hsD))
      have HX4 := Lib.hid (hx.out.below HB4.out (Nat.le_refl _))
      have HX := Lib.hid hx.out
      have hs4 := HB4.out.size
      clear ho hb4 HB3 hx hbl
      have HX1 := Lib.hid HX4.out.1
      rw [hll] at HRV ⊢
      go_wp2_with (at_builtin; refine wpList_append_own _ rfl _ _ 25 rfl D 23 i0 (.slice none 0 0) 1 24 Try.underlying25 hi hz0 hz1 hz2 rfl (by decide) _ _ _ rfl (HX1.out.alloc _) ⟨w4.heap.size, 0, none⟩ 1 1 [.slice Ar n cr] rfl rfl (one_cell w4 _ _) (by simp [Value.oneCell']) (by unfold maxLen; omega) (by omega) (by simp; omega) ?_)
      intro v' w5 hown5 hgr5 _
      have HG5 := Lib.hid (HX.out.snoc HB4.out hsD HRV.out _ (by rw [hkl]; exact hown5) hgr5)
      rw [← HST.out] at HG5
      have HB5 := Lib.hid ((HBD.out.alloc (by omega) _).grown hgr5 (by simp; omega) (fun i hi => (HX1.out.lt i hi).1))
      clear hown5 hgr5
      go_wp2
      go_roundw
      case rel => exact ⟨k + 1, by omega, by go_num, ⟨_, HG5⟩, HB5⟩
      case measure => simp [intOf]; omega
    · obtain rfl : k = NK.length := by omega
      rw [HFU.out] at hx
      have HOW := Lib.hid (hx.out.owned.more (B' := w.heap.size) (by have := hg3.1; omega) (Nat.le_refl _))
      have HBF := Lib.hid (HB6.out.trans (hbl.out.mono (by have := hg3.1; omega)))
      clear hx hbl HB6
      obtain ⟨A9, c9, rfl⟩ := HOW.out.slice
      go_wp2
      go_ret2
      exact ⟨_, rfl, HOW.out, HBF.out⟩
end Go.Proofs.Ytamnacgclhaggab
