/- The rings of which all of a family's sets are arcs: the model. -/
import Derived.Test.YtknjioibmgkpmaaArG
import Derived.Test.YtknjioibmgkpmaaGrow
namespace Go.Proofs.Ytknjioibmgkpmaa
open Go.ChangeShapes Go.WideShapes Go.ChangeAt Go.RowKit

def allT (l L : List Int) (k : Nat) : Bool := (L.take k).all (isA7 l)
theorem allT_step (l L : List Int) (k : Nat) (hk : k < L.length) : allT l L (k + 1) = (allT l L k && isA7 l (L.getD k 0)) := by
  unfold allT
  rw [List.take_succ_eq_append_getElem hk, List.all_append]
  simp [List.getD, hk]
theorem allT_full (l L : List Int) : allT l L L.length = L.all (isA7 l) := by simp [allT]
def arcTo (n : Nat) (L : List Int) (k : Nat) : List (List Int) := ((List.range k).map fun j : Nat => byL n (j : Int)).filter fun l => L.all (isA7 l)
theorem arcTo_full (n : Nat) (L : List Int) : arcTo n L (facM n) = arcL n L := rfl
theorem arcTo_len (n : Nat) (L : List Int) (k : Nat) : (arcTo n L k).length ≤ k := by
  have h1 := List.length_filter_le (fun l => L.all (isA7 l)) ((List.range k).map fun j : Nat => byL n (j : Int))
  simp only [List.length_map, List.length_range] at h1
  exact h1
theorem arcTo_yes (n : Nat) (L : List Int) (k : Nat) (h : L.all (isA7 (byL n k)) = true) : arcTo n L k ++ [byL n k] = arcTo n L (k + 1) := by
  unfold arcTo
  rw [List.range_succ, List.map_append, List.filter_append]
  congr 1
  simp only [List.map_cons, List.map_nil, List.filter_cons, List.filter_nil]
  rw [if_pos h]
theorem arcTo_no (n : Nat) (L : List Int) (k : Nat) (h : L.all (isA7 (byL n k)) = false) : arcTo n L k = arcTo n L (k + 1) := by
  unfold arcTo
  rw [List.range_succ, List.map_append, List.filter_append]
  simp only [List.map_cons, List.map_nil, List.filter_cons, List.filter_nil]
  rw [if_neg (by rw [h]; simp)]
  simp
theorem GrowS.row7 {w : World} {B : Nat} {v : Value} {L : List (List Int)} (h : GrowS w B v L) {k : Nat} (hk : k < L.length) : ∃ g c A d, v = .slice (some ⟨g, 0, none⟩) L.length c ∧ w.cell? ⟨g, k, none⟩ = some (.slice A (rowK L k).length d) ∧ RowV w B (.slice A (rowK L k).length d) (rowK L k) := by
  obtain ⟨xs, h1, h2⟩ := h
  obtain ⟨vk, h3, h4⟩ := h2 k hk
  obtain ⟨A, d, rfl, _⟩ := h4.2
  rcases h1.2 with ⟨_, h0⟩ | ⟨g, cap, cur, rfl, hB, hg, hc, hm, hs, ht⟩
  · omega
  · refine ⟨g, cap, A, d, rfl, ?_, h4⟩
    rw [cell_of_row w g _ cur _ _ hg]
    rw [← ht, List.getElem?_take, if_pos (by omega)] at h3
    simpa using h3

set_option maxRecDepth 10000 in
set_option maxHeartbeats 2000000 in
theorem l7Rings_any (A' : Option Addr) (m d H' : Nat) (n : Nat) (L : List Int) (w : World) (h' : Rd w H' A' m L) (hH : H' ≤ w.heap.size) (h3 : 3 ≤ n) (h6 : n ≤ 6) (hm : m ≤ 10) (hs : ∀ s ∈ L, 0 ≤ s ∧ s < 128) :
    Calls Try.prog 53 #[.int .i64 (n : Int), .slice A' m d] w fun e w' => ∃ v, e = .returned v ∧ GrowS w' w.heap.size v (arcL n L) ∧ Below w.heap.size w w' := by
  obtain ⟨i0, hi, hz0, hz1, hz2⟩ := info_parts row_info
  obtain ⟨hf1, hf2, hf3, hf4⟩ := facM_eq n h3 h6
  have HL := Lib.hid h'.len
  have HSB := Lib.hid (fun k (hk : k < m) => hs _ (getD_mem L k (by rw [HL.out]; exact hk)))
  have hg0 : Hid (GrowS (w.alloc (.cells #[] 23)) w.heap.size (.slice (some ⟨w.heap.size, 0, none⟩) 0 0) []) := GrowS.empty w (Nat.le_refl _)
  have hb0 : Below w.heap.size w (w.alloc (.cells #[] 23)) := (Below.refl _ _).alloc (Nat.le_refl _) _
  have hr0 := Lib.hid (h'.below (hb0.mono hH))
  have HFM := Lib.hid hf1
  obtain ⟨N, hN⟩ : ∃ N, N = facM n := ⟨_, rfl⟩
  rw [← hN] at HFM hf2
  have HN := Lib.hid hN
  have hfk : ∀ k : Nat, k < N → (k : Int) < facN (n - 1) := fun k hk => by rw [← HFM.out]; omega
  have HFACT := Lib.hid (fun W => facS_nat (n - 1) ((n : Int) - 1) W (by omega) (by omega))
  rw [← HFM.out] at HFACT
  have HBY := Lib.hid (fun k (hk : k < N) W => byS_any n (k : Int) W h3 (by omega) (by omega) (hfk k hk))
  have HIS := Lib.hid (fun k (hk : k < N) => byL_is n k h3 h6 (by rw [← hN]; exact hk))
  clear hs h' hf1 hf3 hf4 hN hfk
  go_enter Try.func53, Try.ntmps53
  go_wp2
  generalize w.alloc (.cells #[] 23) = W0 at *
  have hBw0 := hb0.size
  generalize hB : w.heap.size = B at *
  have HB := Lib.hid hB
  clear hB
  go_loopw [5, 6] (fun v i wr => ∃ k : Nat, k ≤ N ∧ i = .int .i64 k ∧ Hid (GrowS wr B v (arcTo n L k)) ∧ Hid (Rd wr H' A' m L) ∧ Below B w wr) (fun _ i _ => N - (intOf i).toNat)
  case atStart => exact ⟨0, Nat.zero_le _, rfl, by simpa [arcTo, Hid] using hg0, hr0, hb0⟩
  case round =>
    obtain ⟨k, hk, rfl, hgs, hrd, hbl⟩ := hrel
    clear hg0 hr0 hb0
    have HBL := Lib.hid hbl
    have hBw : B ≤ wr.heap.size := by rw [← HB.out]; exact hbl.size
    clear hbl
    by_cases hlt : k < N
    · have HS := Lib.hid (HBY.out k hlt)
      have hI := HIS.out k hlt
      have hlen : (byL n (k : Int)).length = n := hI.1
      go_wp2_with fail
      refine (HFACT.out _).mono ?_
      rintro e w' ⟨rfl, rfl⟩
      go_wp2_with fail
      refine (HS.out _).mono ?_
      rintro e w2 ⟨vr, rfl, ho, hb2⟩
      obtain ⟨Ar, cr, rfl⟩ := ho.slice
      have HG2 := Lib.hid (hgs.out.below hb2 (Nat.le_refl _))
      have HR2 := Lib.hid (hrd.out.below (hb2.mono (by omega)))
      have HRV := Lib.hid (ho.rowV5.less hBw)
      have HBL2 := Lib.hid (HBL.out.trans (hb2.mono hBw))
      have hs2 := hb2.size
      have HYES := Lib.hid (arcTo_yes n L k)
      have HNO := Lib.hid (arcTo_no n L k)
      have hkl := arcTo_len n L k
      have HRD : Hid (Rd w2 w2.heap.size Ar n (byL n (k : Int))) := by have := ho.rd.2; rw [hlen] at this; exact this
      have hbd := isR_bd hI h3 (by omega)
      have HRUN := Lib.hid (fun (W : World) (s : Nat) (hs : s < 128) (H : Nat) (hW : Rd W H Ar n (byL n (k : Int))) => runS_any Ar n cr H (byL n (k : Int)) s W hW (by omega) (by omega) hbd hs)
      rw [hlen] at HRV ⊢
      clear ho hb2 hI hgs hrd hlen hbd
      obtain ⟨a, ha⟩ : ∃ a, a = byL n (k : Int) := ⟨_, rfl⟩
      rw [← ha] at HRV HRD HRUN HYES HNO
      clear ha
      have hBw2 : B ≤ w2.heap.size := by omega
      generalize hE : w2.heap.size = E at *
      have HE := Lib.hid hE
      clear hE
      have HRD0 := Lib.hid HRD.out
      clear HRD HS HBY HIS
      have hkb : k ≤ 720 := by omega
      generalize arcTo n L k = M at *
      obtain ⟨M', hM'⟩ : ∃ M', M' = arcTo n L (k + 1) := ⟨_, rfl⟩
      rw [← hM'] at HYES HNO
      have HM' := Lib.hid hM'
      clear hM'
      have HI7 : Hid (∀ s : Nat, isA7 a (s : Int) = ((runN (hasN s) a : Int) == 1)) := fun s => by rw [isA7, Int.toNat_natCast, Bool.eq_iff_iff, decide_eq_true_iff, beq_iff_eq]; omega
      go_wp2
      go_loop [8, 9] (fun okv i => ∃ j : Nat, j ≤ m ∧ i = .int .i64 j ∧ okv = .bool (allT a L j)) (fun _ i => m - (intOf i).toNat)
      case atStart => exact ⟨0, Nat.zero_le _, rfl, by simp [allT]⟩
      case round =>
        obtain ⟨j, hj, rfl, rfl⟩ := hrel
        by_cases hlj : j < m
        · have hjl : j < L.length := by rw [HL.out]; exact hlj
          obtain ⟨b, o, rfl, hbB, hcs⟩ := HR2.out.at_ (by omega)
          have hc := hcs j hlj
          have HST := Lib.hid (allT_step a L j hjl)
          have hsb := HSB.out j hlj
          clear hcs
          generalize L.getD j 0 = x at *
          obtain ⟨s, rfl⟩ : ∃ s : Nat, x = (s : Int) := ⟨x.toNat, by omega⟩
          have HC := Lib.hid (HRUN.out w2 s (by omega) E HRD0.out)
          have hrr := HI7.out s
          generalize isA7 a (s : Int) = q1 at *
          generalize runN (hasN s) a = z at *
          cases hok : allT a L j with
          | false =>
            rw [hok] at HST
            clear HC hok hrr
            go_wp2
            go_round
            case rel => exact ⟨j + 1, by omega, by go_num, by rw [HST.out]; rfl⟩
            case measure => simp [intOf]; omega
          | true =>
            rw [hok, Bool.true_and] at HST
            rw [hrr] at HST
            clear hok hrr
            go_wp2_with (go_at_call 46; refine HC.out.mono ?_; rintro e w5 ⟨rfl, rfl⟩)
            go_round
            case rel => exact ⟨j + 1, by omega, by go_num, by rw [HST.out]⟩
            case measure => simp [intOf]; omega
        · obtain rfl : j = m := by omega
          have HAL : Hid (allT a L j = L.all (isA7 a)) := by rw [Hid, ← HL.out]; exact allT_full a L
          rw [HAL.out]
          cases hall : L.all (isA7 a) with
          | true =>
            have HST := Lib.hid (HYES.out hall)
            clear HYES HNO hall HAL HRUN HI7
            obtain ⟨xs, hx1, hx2⟩ := HG2.out
            have HX1 := Lib.hid hx1
            have HX2 := Lib.hid hx2
            have hMb : M.length ≤ 720 := by omega
            have hEB : B ≤ w2.heap.size := by rw [HE.out]; exact hBw2
            clear hx1 hx2
            go_wp2_with (at_builtin; refine wpList_append_own _ rfl _ _ 65 rfl B 23 i0 (.slice none 0 0) 1 24 Try.underlying65 hi hz0 hz1 hz2 rfl (by decide) _ _ _ rfl (HX1.out.alloc _) ⟨_, 0, none⟩ 1 1 [.slice Ar n cr] rfl rfl (one_cell w2 _ _) (by simp [Value.oneCell']) (by unfold maxLen; omega) (by omega) (by simp; omega) ?_)
            intro v' w5 hown5 hgr5 _
            have HG5 := Lib.hid (grow_row rfl HX1.out HX2.out HRV.out _ hown5 hgr5)
            rw [HST.out] at HG5
            have HB5 := Lib.hid ((HBL2.out.alloc hEB _).grown hgr5 (by simp; omega) (fun i hi => (HX1.out.lt i hi).1))
            have HR5 := Lib.hid (HR2.out.below (((Below.refl H' w2).alloc (by omega) _).grown hgr5 (by simp; omega) (fun i hi => by have := (HX1.out.lt i hi).1; omega)))
            clear hown5 hgr5
            go_wp2
            go_roundw
            case rel => exact ⟨k + 1, by omega, by go_num, by rw [← HM'.out]; exact HG5, HR5, HB5.out⟩
            case measure => simp [intOf]; omega
          | false =>
            have HST := Lib.hid (HNO.out hall)
            clear HYES HNO hall HAL HRUN HI7
            rw [HST.out] at HG2
            go_wp2
            go_roundw
            case rel => exact ⟨k + 1, by omega, by go_num, by rw [← HM'.out]; exact HG2, HR2, HBL2.out⟩
            case measure => simp [intOf]; omega
    · obtain rfl : k = N := by omega
      go_wp2_with fail
      refine (HFACT.out _).mono ?_
      rintro e w' ⟨rfl, rfl⟩
      rw [HN.out, arcTo_full] at hgs
      go_wp2
      go_ret
      exact ⟨_, rfl, by rw [HB.out]; exact hgs.out, by rw [HB.out]; exact HBL.out⟩
end Go.Proofs.Ytknjioibmgkpmaa
