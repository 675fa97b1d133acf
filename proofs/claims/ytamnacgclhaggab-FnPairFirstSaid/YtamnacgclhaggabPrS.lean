/- The rings on which a scheme's partings part: the model. -/
import Derived.Test.YtamnacgclhaggabPrd
import Derived.Test.YtamnacgclhaggabPE
import Derived.Test.YtamnacgclhaggabPart
namespace Go.Proofs.Ytamnacgclhaggab
open Go.ChangeShapes Go.WideShapes Go.ChangeAt Go.RowKit

def prTo (n : Nat) (L : List (List Int)) (k : Nat) : List (List Int) := ((List.range k).map fun j : Nat => byL n (j : Int)).filter fun l => L.all (partB l)
theorem prTo_full (n : Nat) (L : List (List Int)) : prTo n L (facM n) = prL n L := rfl
theorem prTo_len (n : Nat) (L : List (List Int)) (k : Nat) : (prTo n L k).length ≤ k := by
  have h1 := List.length_filter_le (fun l => L.all (partB l)) ((List.range k).map fun j : Nat => byL n (j : Int))
  simp only [List.length_map, List.length_range] at h1
  exact h1
theorem prTo_yes (n : Nat) (L : List (List Int)) (k : Nat) (h : L.all (partB (byL n k)) = true) : prTo n L k ++ [byL n k] = prTo n L (k + 1) := by
  unfold prTo
  rw [List.range_succ, List.map_append, List.filter_append]
  congr 1
  simp only [List.map_cons, List.map_nil, List.filter_cons, h, if_true, List.filter_nil]
theorem prTo_no (n : Nat) (L : List (List Int)) (k : Nat) (h : L.all (partB (byL n k)) = false) : prTo n L k = prTo n L (k + 1) := by
  unfold prTo
  rw [List.range_succ, List.map_append, List.filter_append]
  simp only [List.map_cons, List.map_nil, List.filter_cons, h, List.filter_nil]
  simp
theorem all_step (L : List (List Int)) (f : List Int → Bool) (j : Nat) (h : j < L.length) : (L.take (j + 1)).all f = ((L.take j).all f && f (rowK L j)) := by
  rw [List.take_succ_eq_append_getElem h, List.all_append]
  simp [rowK, List.getD, h]
theorem own_rowV {w : World} {B : Nat} {v : Value} {l : List Int} (h : Go.Proofs.Ytamnacgclhaggab.Own w B v l) : RowV w B v l := by
  refine ⟨h.gen, ?_⟩
  rcases h.2 with ⟨e, h0⟩ | ⟨g, cap, cur, e, _, _, h2, h3, _⟩
  · exact ⟨none, 0, by rw [e, h0], by omega, by omega⟩
  · exact ⟨_, cap, e, h2, by unfold maxLen at h3; omega⟩

set_option maxRecDepth 10000 in
set_option maxHeartbeats 4000000 in
theorem l3Rings_any (A' : Option Addr) (m d H' : Nat) (n : Nat) (L : List (List Int)) (w : World) (h' : RdS w H' A' m L) (hH : H' ≤ w.heap.size) (h4 : 4 ≤ n) (h6 : n ≤ 6) (hm : m ≤ 20) (hT : ∀ t ∈ L, Four (n : Int) t) :
    Calls Try.prog 64 #[.int .i64 (n : Int), .slice A' m d] w fun e w' => ∃ v, e = .returned v ∧ GrowS w' w.heap.size v (prL n L) ∧ Below w.heap.size w w' := by
  have h3 : 3 ≤ n := by omega
  obtain ⟨i0, hi, hz0, hz1, hz2⟩ := info_parts row_info
  obtain ⟨hf1, hf2, hf3, hf4⟩ := facM_eq n h3 h6
  have HL := Lib.hid h'.len
  have HTT := Lib.hid hT
  have hg0 : Hid (GrowS (w.alloc (.cells #[] 23)) w.heap.size (.slice (some ⟨w.heap.size, 0, none⟩) 0 0) []) := GrowS.empty w (Nat.le_refl _)
  have hb0 : Below w.heap.size w (w.alloc (.cells #[] 23)) := (Below.refl _ _).alloc (Nat.le_refl _) _
  have hr0 := Lib.hid (h'.below (hb0.mono hH))
  have HFM := Lib.hid hf1
  obtain ⟨N, hN⟩ : ∃ N, N = facM n := ⟨_, rfl⟩
  rw [← hN] at HFM hf2
  have HN := Lib.hid hN
  have hfk : ∀ k : Nat, k < N → (k : Int) < facN (n - 1) := fun k hk => by rw [← HFM.out]; omega
  have HFACT := Lib.hid (fun W => facS_nat (n - 1) ((n : Int) - 1) W (by omega) (by omega))
  rw [← HFM.out] at HFACT
  have HBY := Lib.hid (fun k (hk : k < N) W => byS_any n (k : Int) W h3 (by omega) (by omega) (hfk k hk))
  have HIS := Lib.hid (fun k (hk : k < N) => byL_is n k h3 h6 (by rw [← hN]; exact hk))
  clear hT h' hf1 hf3 hf4 hN hfk
  go_enter Try.func64, Try.ntmps64
  go_wp2
  generalize w.alloc (.cells #[] 23) = W0 at *
  have hBw0 := hb0.size
  generalize hB : w.heap.size = B at *
  have HB := Lib.hid hB
  clear hB
  go_loopw [5, 6] (fun v i wr => ∃ k : Nat, k ≤ N ∧ i = .int .i64 k ∧ Hid (GrowS wr B v (prTo n L k)) ∧ Hid (RdS wr H' A' m L) ∧ Below B w wr) (fun _ i _ => N - (intOf i).toNat)
  case atStart => exact ⟨0, Nat.zero_le _, rfl, by simpa [prTo, Hid] using hg0, hr0, hb0⟩
  case round =>
    obtain ⟨k, hk, rfl, hgs, hrd, hbl⟩ := hrel
    clear hg0 hr0 hb0
    have HBL := Lib.hid hbl
    have hBw : B ≤ wr.heap.size := by rw [← HB.out]; exact hbl.size
    clear hbl
    by_cases hlt : k < N
    · have HS := Lib.hid (HBY.out k hlt)
      have hI := HIS.out k hlt
      have HI := Lib.hid hI
      go_wp2_with fail
      refine (HFACT.out _).mono ?_
      rintro e w' ⟨rfl, rfl⟩
      go_wp2_with fail
      refine (HS.out _).mono ?_
      rintro e w2 ⟨vr, rfl, ho, hb2⟩
      obtain ⟨Ar, cr, rfl⟩ := ho.slice
      have hl : (byL n k).length = n := hI.1
      have HG2 := Lib.hid (hgs.out.below hb2 (Nat.le_refl _))
      have HR2 := Lib.hid (hrd.out.below (hb2.mono (by omega)))
      have HRV := Lib.hid ((own_rowV ho).less hBw)
      have HRD := Lib.hid ho.rd.2
      have HBL2 := Lib.hid (HBL.out.trans (hb2.mono hBw))
      have hs2 := hb2.size
      have HYES := Lib.hid (prTo_yes n L k)
      have HNO := Lib.hid (prTo_no n L k)
      have hkl := prTo_len n L k
      rw [hl] at HRV HRD ⊢
      obtain ⟨R, hR⟩ : ∃ R, R = byL n (k : Int) := ⟨_, rfl⟩
      rw [← hR] at HRV HRD HYES HNO HI
      clear ho hb2 hI hgs hrd hl hR
      obtain ⟨W2, hW2⟩ : ∃ W, W = w2 := ⟨_, rfl⟩
      subst hW2
      go_wp2
      go_loopw [8, 9] (fun b i wr => ∃ j : Nat, j ≤ m ∧ i = .int .i64 j ∧ (∃ bb : Bool, b = .bool bb ∧ Hid ((L.take j).all (partB R) = bb)) ∧ ∃ p, wr = W2.drewN p) (fun _ i _ => m - (intOf i).toNat)
      case atStart => exact ⟨0, Nat.zero_le _, rfl, ⟨true, rfl, by simp [Hid]⟩, 0, rfl⟩
      case round =>
        obtain ⟨j, hj, rfl, ⟨bb, rfl, hbb⟩, p, rfl⟩ := hrel
        by_cases hltj : j < m
        · have hjl : j < L.length := by rw [HL.out]; exact hltj
          have HST := Lib.hid (all_step L (partB R) j hjl)
          have hf := HTT.out _ (rowK_mem hjl)
          obtain ⟨b, o, rfl, hbB, hcs⟩ := HR2.out.at_ (by omega)
          obtain ⟨Ak, ck, hc, hr, hz, hcm⟩ := hcs j hltj
          rw [hbb.out] at HST
          cases bb with
          | false =>
            have HT : Hid ((L.take (j + 1)).all (partB R) = false) := by rw [Hid, HST.out]; rfl
            clear hcs hr hz hcm hc hbb HST hf hjl
            go_wp2
            go_roundw
            case rel => exact ⟨j + 1, by omega, by go_num, ⟨false, rfl, HT⟩, _, rfl⟩
            case measure => simp [intOf]; omega
          | true =>
            obtain ⟨x, y, z, u, hx⟩ := of_four hf.1
            have hm' : ∀ v ∈ rowK L j, v ∈ R := fun v hv => HI.out.2.2 v (hf.2.1 v hv).1 (hf.2.1 v hv).2
            rw [hx] at hc hr hm' HST
            have HC := Lib.hid (l3Parts_any Ar n cr _ R Ak ck H' x y z u (W2.drewN p) (HRD.out.drewN p) (hr.drewN p) (by omega) (by omega) (hm' x (by simp)) (hm' y (by simp)) (hm' z (by simp)) (hm' u (by simp)))
            have HT : Hid ((L.take (j + 1)).all (partB R) = partB R [x, y, z, u]) := by rw [Hid, HST.out]; rfl
            clear hcs hr hz hcm hbb HST hf hjl hm' hx
            generalize partB R [x, y, z, u] = b2 at *
            simp only [List.length_cons, List.length_nil, Nat.zero_add, Nat.reduceAdd] at hc
            go_wp2_with fail
            refine HC.out.mono ?_
            rintro e w3 ⟨rfl, p2, rfl⟩
            go_wp2
            go_roundw
            case rel => exact ⟨j + 1, by omega, by go_num, ⟨b2, rfl, HT⟩, p + p2, rfl⟩
            case measure => simp [intOf]; omega
        · obtain rfl : j = m := by omega
          have hq := hbb.out
          rw [List.take_of_length_le (by rw [HL.out]; exact Nat.le_refl _)] at hq
          have HG3 := Lib.hid (HG2.out.drewN p)
          have HRV3 : Hid (RowV (W2.drewN p) B (.slice Ar n cr) R) := Lib.hid (HRV.out.same fun _ _ => rfl)
          have HR3 := Lib.hid (HR2.out.drewN p)
          have HBL3 := Lib.hid (below_drewN HBL2.out p)
          have hs3 : B ≤ (W2.drewN p).heap.size := Nat.le_trans hBw hs2
          generalize W2.drewN p = w3 at *
          cases bb with
          | true =>
            have HST := Lib.hid (HYES.out hq)
            clear HYES HNO hq hbb
            obtain ⟨xs, hx1, hx2⟩ := HG3.out
            have HX1 := Lib.hid hx1
            have HX2 := Lib.hid hx2
            clear hx1 hx2
            go_wp2_with (at_builtin; refine wpList_append_own _ rfl _ _ 25 rfl B 23 i0 (.slice none 0 0) 1 24 Try.underlying25 hi hz0 hz1 hz2 rfl (by decide) _ _ _ rfl (HX1.out.alloc _) ⟨w3.heap.size, 0, none⟩ 1 1 [.slice Ar n cr] rfl rfl (one_cell w3 _ _) (by simp [Value.oneCell']) (by unfold maxLen; omega) (by omega) (by simp; omega) ?_)
            intro v' w5 hown5 hgr5 _
            have HG5 := Lib.hid (grow_row rfl HX1.out HX2.out HRV3.out _ hown5 hgr5)
            rw [HST.out] at HG5
            have HB5 := Lib.hid ((HBL3.out.alloc hs3 _).grown hgr5 (by simp; omega) (fun i hi => (HX1.out.lt i hi).1))
            have HR5 := Lib.hid (HR3.out.below (((Below.refl H' w3).alloc (by omega) _).grown hgr5 (by simp; omega) (fun i hi => by have := (HX1.out.lt i hi).1; omega)))
            clear hown5 hgr5
            go_wp2
            go_roundw
            case rel => exact ⟨k + 1, by omega, by go_num, HG5, HR5, HB5.out⟩
            case measure => simp [intOf]; omega
          | false =>
            have HST := Lib.hid (HNO.out hq)
            clear HYES HNO hq hbb
            rw [HST.out] at HG3
            go_wp2
            go_roundw
            case rel => exact ⟨k + 1, by omega, by go_num, HG3, HR3, HBL3.out⟩
            case measure => simp [intOf]; omega
    · obtain rfl : k = N := by omega
      go_wp2_with fail
      refine (HFACT.out _).mono ?_
      rintro e w' ⟨rfl, rfl⟩
      rw [HN.out, prTo_full] at hgs
      go_wp2
      go_ret
      exact ⟨_, rfl, by rw [HB.out]; exact hgs.out, by rw [HB.out]; exact HBL.out⟩
end Go.Proofs.Ytamnacgclhaggab
