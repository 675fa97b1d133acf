/- All rings that agree with a telling: the model's slice, the program's row. -/
import Derived.Test.YthfbllgfcidhkaaCnt
import Derived.Test.YthfbllgfcidhkaaTelT
namespace Go.Proofs.Ythfbllgfcidhkaa
open Go.ChangeShapes Go.WideShapes Go.ChangeAt Go.RowKit

def agreeL (n : Nat) (L : List (List Int)) : List (List Int) := (ringsL n).filter fun l => decide (cntL l L = L.length)
theorem agreeL_len (n : Nat) (L : List (List Int)) (h3 : 3 ≤ n) (h6 : n ≤ 6) : (agreeL n L).length ≤ 720 := by
  have h1 := List.length_filter_le (fun l => decide (cntL l L = L.length)) (ringsL n)
  rw [ringsL_length] at h1
  have := (facM_eq n h3 h6).2.1
  unfold agreeL; omega
def agreeTo (n : Nat) (L : List (List Int)) (k : Nat) : List (List Int) := ((List.range k).map fun j : Nat => byL n (j : Int)).filter fun l => decide (cntL l L = L.length)
theorem agreeTo_full (n : Nat) (L : List (List Int)) : agreeTo n L (facM n) = agreeL n L := rfl
theorem agreeTo_len (n : Nat) (L : List (List Int)) (k : Nat) : (agreeTo n L k).length ≤ k := by
  have h1 := List.length_filter_le (fun l => decide (cntL l L = L.length)) ((List.range k).map fun j : Nat => byL n (j : Int))
  simp only [List.length_map, List.length_range] at h1
  exact h1
theorem agreeTo_yes (n : Nat) (L : List (List Int)) (k : Nat) (h : cntL (byL n k) L = L.length) : agreeTo n L k ++ [byL n k] = agreeTo n L (k + 1) := by
  simp [agreeTo, List.range_succ, List.filter_append, h]
theorem agreeTo_no (n : Nat) (L : List (List Int)) (k : Nat) (h : ¬ cntL (byL n k) L = L.length) : agreeTo n L k = agreeTo n L (k + 1) := by
  simp [agreeTo, List.range_succ, List.filter_append, h]

/-- What is owned at its block's head is a row. -/
theorem Own.rowV {w : World} {B : Nat} {v : Value} {l : List Int} (h : Own w B v l) : RowV w B v l := by
  refine ⟨h.gen, ?_⟩
  rcases h.2 with ⟨e, h0⟩ | ⟨g, cap, cur, e, _, _, h2, h3, _⟩
  · exact ⟨none, 0, by rw [e, h0], by omega, by omega⟩
  · exact ⟨_, cap, e, h2, by unfold maxLen at h3; omega⟩

set_option maxRecDepth 10000 in
set_option maxHeartbeats 2000000 in
theorem l2Rings_any (A' : Option Addr) (m d H' : Nat) (n : Nat) (L : List (List Int)) (w : World) (h' : RdS w H' A' m L) (hH : H' ≤ w.heap.size) (h3 : 3 ≤ n) (h6 : n ≤ 6) (hm : m ≤ 1000) (hT : ∀ t ∈ L, Thr (n : Int) t) :
    Calls Try.prog 54 #[.int .i64 (n : Int), .slice A' m d] w fun e w' => ∃ v, e = .returned v ∧ GrowS w' w.heap.size v (agreeL n L) ∧ Below w.heap.size w w' := by
  obtain ⟨i0, hi, hz0, hz1, hz2⟩ := info_parts row_info
  obtain ⟨hf1, hf2, hf3, hf4⟩ := facM_eq n h3 h6
  have HL := Lib.hid h'.len
  have HTT := Lib.hid hT
  have hg0 : Hid (GrowS (w.alloc (.cells #[] 27)) w.heap.size (.slice (some ⟨w.heap.size, 0, none⟩) 0 0) []) := GrowS.empty w (Nat.le_refl _)
  have hb0 : Below w.heap.size w (w.alloc (.cells #[] 27)) := (Below.refl _ _).alloc (Nat.le_refl _) _
  have hr0 := Lib.hid (h'.below (hb0.mono hH))
  have HFM := Lib.hid hf1
  obtain ⟨N, hN⟩ : ∃ N, N = facM n := ⟨_, rfl⟩
  rw [← hN] at HFM hf2
  have HN := Lib.hid hN
  have hfk : ∀ k : Nat, k < N → (k : Int) < facN (n - 1) := fun k hk => by rw [← HFM.out]; omega
  have HFK := Lib.hid hfk
  have HFACT := Lib.hid (fun W => facS_nat (n - 1) ((n : Int) - 1) W (by omega) (by omega))
  rw [← HFM.out] at HFACT
  have HBY := Lib.hid (fun k (hk : k < N) W => byS_any n (k : Int) W h3 (by omega) (by omega) (hfk k hk))
  have HIS := Lib.hid (fun k (hk : k < N) => byL_is n k h3 h6 (by rw [← hN]; exact hk))
  clear hT h' hf1 hf3 hf4 hN hfk
  go_enter Try.func54, Try.ntmps54
  go_wp2
  generalize w.alloc (.cells #[] 27) = W0 at *
  have hBw0 := hb0.size
  generalize hB : w.heap.size = B at *
  have HB := Lib.hid hB
  clear hB
  go_loopw [5, 6] (fun v i wr => ∃ k : Nat, k ≤ N ∧ i = .int .i64 k ∧ Hid (GrowS wr B v (agreeTo n L k)) ∧ Hid (RdS wr H' A' m L) ∧ Below B w wr) (fun _ i _ => N - (intOf i).toNat)
  case atStart => exact ⟨0, Nat.zero_le _, rfl, by simpa [agreeTo, Hid] using hg0, hr0, hb0⟩
  case round =>
    obtain ⟨k, hk, rfl, hgs, hrd, hbl⟩ := hrel
    clear hg0 hr0 hb0
    have HBL := Lib.hid hbl
    have hBw : B ≤ wr.heap.size := by rw [← HB.out]; exact hbl.size
    clear hbl
    by_cases hlt : k < N
    · have HS := Lib.hid (HBY.out k hlt)
      have hI := HIS.out k hlt
      have HI := Lib.hid hI
      go_wp2_with fail
      refine (HFACT.out _).mono ?_
      rintro e w' ⟨rfl, rfl⟩
      go_wp2_with fail
      refine (HS.out _).mono ?_
      rintro e w2 ⟨vr, rfl, ho, hb2⟩
      obtain ⟨Ar, cr, rfl⟩ := ho.slice
      have hl : (byL n k).length = n := hI.1
      have HG2 := Lib.hid (hgs.out.below hb2 (Nat.le_refl _))
      have HR2 := Lib.hid (hrd.out.below (hb2.mono (by omega)))
      have HRV := Lib.hid (ho.rowV.less hBw)
      have HRD := Lib.hid ho.rd.2
      have HBL2 := Lib.hid (HBL.out.trans (hb2.mono hBw))
      have hs2 := hb2.size
      have HYES := Lib.hid (agreeTo_yes n L k)
      have HNO := Lib.hid (agreeTo_no n L k)
      have hkl := agreeTo_len n L k
      rw [hl] at HRV HRD ⊢
      have HMA := Lib.hid (many_any Ar n cr _ (byL n k) A' m d H' L w2 HRD.out HR2.out (by omega) (by omega) hm (HI.out.mem3 HTT.out))
      clear ho hb2 hI hgs hrd hl
      go_wp2_with fail
      refine HMA.out.mono ?_
      rintro e w3 ⟨rfl, p, rfl⟩
      have HG3 := Lib.hid (HG2.out.drewN p)
      have HRV3 : Hid (RowV (w2.drewN p) B (.slice Ar n cr) (byL n k)) := Lib.hid (HRV.out.same fun _ _ => rfl)
      have HR3 := Lib.hid (HR2.out.drewN p)
      have HBL3 := Lib.hid (below_drewN HBL2.out p)
      have hs3 : B ≤ (w2.drewN p).heap.size := Nat.le_trans hBw hs2
      clear HG2 HRV HR2 HBL2 HRD HMA HS
      obtain ⟨q, hq⟩ : ∃ q, q = cntL (byL n k) L := ⟨_, rfl⟩
      rw [← hq] at HYES HNO ⊢
      clear hq
      generalize w2.drewN p = w3 at *
      by_cases hqm : q = m
      · have hqe : ((q : Int) == (m : Int)) = true := by simp; omega
        have HST := Lib.hid (HYES.out (by rw [hqm, HL.out]))
        clear HYES HNO hqm
        obtain ⟨xs, hx1, hx2⟩ := HG3.out
        have HX1 := Lib.hid hx1
        have HX2 := Lib.hid hx2
        clear hx1 hx2
        go_wp2_with (at_builtin; refine wpList_append_own _ rfl _ _ 22 rfl B 27 i0 (.slice none 0 0) 1 24 Try.underlying22 hi hz0 hz1 hz2 rfl (by decide) _ _ _ rfl (HX1.out.alloc _) ⟨w3.heap.size, 0, none⟩ 1 1 [.slice Ar n cr] rfl rfl (one_cell w3 _ _) (by simp [Value.oneCell']) (by unfold maxLen; omega) (by omega) (by simp; omega) ?_)
        intro v' w5 hown5 hgr5 _
        have HG5 := Lib.hid (grow_row rfl HX1.out HX2.out HRV3.out _ hown5 hgr5)
        rw [HST.out] at HG5
        have HB5 := Lib.hid ((HBL3.out.alloc hs3 _).grown hgr5 (by simp; omega) (fun i hi => (HX1.out.lt i hi).1))
        have HR5 := Lib.hid (HR3.out.below (((Below.refl H' w3).alloc (by omega) _).grown hgr5 (by simp; omega) (fun i hi => by have := (HX1.out.lt i hi).1; omega)))
        clear hown5 hgr5
        go_wp2
        go_roundw
        case rel => exact ⟨k + 1, by omega, by go_num, HG5, HR5, HB5.out⟩
        case measure => simp [intOf]; omega
      · have hqe : ((q : Int) == (m : Int)) = false := by simp; omega
        have HST := Lib.hid (HNO.out (by rw [HL.out]; exact hqm))
        clear HYES HNO hqm
        rw [HST.out] at HG3
        go_wp2
        go_roundw
        case rel => exact ⟨k + 1, by omega, by go_num, HG3, HR3, HBL3.out⟩
        case measure => simp [intOf]; omega
    · obtain rfl : k = N := by omega
      go_wp2_with fail
      refine (HFACT.out _).mono ?_
      rintro e w' ⟨rfl, rfl⟩
      rw [HN.out, agreeTo_full] at hgs
      go_wp2
      go_ret
      exact ⟨_, rfl, by rw [HB.out]; exact hgs.out, by rw [HB.out]; exact HBL.out⟩
end Go.Proofs.Ythfbllgfcidhkaa
