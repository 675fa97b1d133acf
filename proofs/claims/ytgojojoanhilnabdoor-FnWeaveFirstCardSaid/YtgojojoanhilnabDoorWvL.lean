/- The model's check of a list of parts, and the rings that have all of them. -/
import Derived.Test.YtgojojoanhilnabDoorWvW
import Derived.Test.YtgojojoanhilnabDoorWvF
import Derived.Test.YtgojojoanhilnabDoorPE
namespace Go.Proofs.YtgojojoanhilnabDoor
open Go.ChangeShapes Go.WideShapes Go.ChangeAt Go.RowKit

set_option maxRecDepth 10000 in
set_option maxHeartbeats 1000000 in
theorem lists_any (A : Option Addr) (m c H : Nat) (L : List (List Int)) (n : Int) (w : World) (h : RdS w H A m L) (hm : m ≤ 9223372036854775807) (hr : ∀ k, k < m → (rowK L k).length ≤ 1048576) :
    Calls Tryd.prog 24 #[.int .i64 n, .slice A m c] w fun e w' => e = .returned (.bool (lst n L)) ∧ ∃ q, w' = w.drewN q := by
  have HL := Lib.hid h.len
  have HR := Lib.hid h
  have HRB := Lib.hid hr
  obtain ⟨r, hr⟩ : ∃ r, r = lst n L := ⟨_, rfl⟩
  rw [← hr]
  have HRR := Lib.hid hr
  clear h hr
  go_enter Tryd.func24, Tryd.ntmps24
  go_wp2
  go_loopw [5] (fun i wr => ∃ k : Nat, k ≤ m ∧ i = .int .i64 k ∧ Hid (AllTo (prt n) L k) ∧ ∃ d, wr = w.drewN d) (fun i _ => m - (intOf i).toNat)
  case atStart => exact ⟨0, Nat.zero_le _, rfl, fun j hj => absurd hj (by omega), 0, rfl⟩
  case round =>
    obtain ⟨k, hk, rfl, hto, d, hd⟩ := hrel
    have HRW : Hid (RdS wr H A m L) := by rw [hd]; exact HR.out.drewN d
    have HD := Lib.hid hd
    clear hd
    by_cases hlt : k < m
    · obtain ⟨b, o, rfl, hbB, hcs⟩ := HRW.out.at_ (by omega)
      obtain ⟨Ak, ck, hc, hrk, _, _⟩ := hcs k hlt
      have HC := Lib.hid (l6wIn_any Ak _ ck H (rowK L k) n wr hrk (HRB.out k hlt))
      have HT := Lib.hid (allTo_step (q := prt n) (L := L) (k := k) hto.out)
      have HN : Hid (prt n (rowK L k) = false → lst n L = false) := fun e => by
        refine (lst_no fun hh => ?_).1
        have := prt_yes (hh.2.2 _ (rowK_mem (k := k) (by rw [HL.out]; exact hlt)))
        rw [e] at this
        cases this
      clear hcs hrk hto
      cases hp : prt n (rowK L k) with
      | false =>
        have TF := Lib.hid (HN.out hp)
        rw [hp] at HC
        clear HT HN hp
        generalize (rowK L k).length = z at *
        go_wp2_with fail
        refine HC.out.mono ?_
        rintro e w2 ⟨rfl, q, rfl⟩
        go_wp2
        go_ret
        exact ⟨by rw [HRR.out, TF.out]; rfl, d + q, by rw [HD.out, World.drewN_drewN]⟩
      | true =>
        have TT := Lib.hid (HT.out hp)
        rw [hp] at HC
        clear HT HN hp
        generalize (rowK L k).length = z at *
        go_wp2_with fail
        refine HC.out.mono ?_
        rintro e w2 ⟨rfl, q, rfl⟩
        go_wp2
        go_roundw
        case rel => exact ⟨k + 1, by omega, by go_num, TT, d + q, by rw [HD.out, World.drewN_drewN]⟩
        case measure => simp [intOf]; omega
    · obtain rfl : k = m := by omega
      have hall : ∀ l ∈ L, Prt n l := fun l hl => by
        have := allTo_all (q := prt n) (L := L) (by rw [HL.out]; exact hto.out) l hl
        simpa [prt] using this
      by_cases h36 : 3 ≤ n ∧ n ≤ 6
      · have HI := Lib.hid (inQ n 3 6 true (by simp; omega))
        by_cases h10 : k ≤ 10
        · have TT := Lib.hid (lst_yes (n := n) (L := L) ⟨h36, by rw [HL.out]; exact h10, hall⟩).1
          clear hall
          have hd10 : decide ((k : Int) ≤ 10) = true := by simp; omega
          go_wp2_with (go_at_call 49; refine (HI.out _).mono ?_; rintro e w' ⟨rfl, rfl⟩)
          go_ret
          exact ⟨by rw [HRR.out, TT.out, ← hd10]; rfl, d, HD.out⟩
        · have hd10 : decide ((k : Int) ≤ 10) = false := by simp; omega
          have TF := Lib.hid (lst_no (n := n) (L := L) (fun hh => by have := hh.2.1; rw [HL.out] at this; omega)).1
          clear hall
          go_wp2_with (go_at_call 49; refine (HI.out _).mono ?_; rintro e w' ⟨rfl, rfl⟩)
          go_ret
          exact ⟨by rw [HRR.out, TF.out, ← hd10]; rfl, d, HD.out⟩
      · have HI := Lib.hid (inQ n 3 6 false (by simp; omega))
        have TF := Lib.hid (lst_no (n := n) (L := L) (fun hh => h36 hh.1)).1
        clear hall h36
        go_wp2_with (go_at_call 49; refine (HI.out _).mono ?_; rintro e w' ⟨rfl, rfl⟩)
        go_ret
        exact ⟨by rw [HRR.out, TF.out]; rfl, d, HD.out⟩

def allTo1 (l : List Int) (L : List (List Int)) (k : Nat) : Bool := (L.take k).all (hasL l)
theorem allTo1_step (l : List Int) (L : List (List Int)) (k : Nat) (hk : k < L.length) : allTo1 l L (k + 1) = (allTo1 l L k && hasL l (rowK L k)) := by
  unfold allTo1
  rw [List.take_succ_eq_append_getElem hk, List.all_append]
  simp [rowK, List.getD, hk]
theorem allTo1_full (l : List Int) (L : List (List Int)) : allTo1 l L L.length = L.all (hasL l) := by simp [allTo1]
def wovTo (n : Nat) (L : List (List Int)) (k : Nat) : List (List Int) := ((List.range k).map fun j : Nat => byL n (j : Int)).filter fun l => L.all (hasL l)
theorem wovTo_full (n : Nat) (L : List (List Int)) : wovTo n L (facM n) = wovenL n L := rfl
theorem wovTo_len (n : Nat) (L : List (List Int)) (k : Nat) : (wovTo n L k).length ≤ k := by
  have h1 := List.length_filter_le (fun l => L.all (hasL l)) ((List.range k).map fun j : Nat => byL n (j : Int))
  simp only [List.length_map, List.length_range] at h1
  exact h1
theorem wovTo_yes (n : Nat) (L : List (List Int)) (k : Nat) (h : L.all (hasL (byL n k)) = true) : wovTo n L k ++ [byL n k] = wovTo n L (k + 1) := by
  unfold wovTo
  rw [List.range_succ, List.map_append, List.filter_append]
  congr 1
  simp only [List.map_cons, List.map_nil, List.filter_cons, List.filter_nil]
  rw [if_pos h]
theorem wovTo_no (n : Nat) (L : List (List Int)) (k : Nat) (h : L.all (hasL (byL n k)) = false) : wovTo n L k = wovTo n L (k + 1) := by
  unfold wovTo
  rw [List.range_succ, List.map_append, List.filter_append]
  simp only [List.map_cons, List.map_nil, List.filter_cons, List.filter_nil]
  rw [if_neg (by rw [h]; simp)]
  simp
theorem Own.rowW {w : World} {B : Nat} {v : Value} {l : List Int} (h : Own w B v l) : RowV w B v l := h.rowV5

set_option maxRecDepth 10000 in
set_option maxHeartbeats 2000000 in
theorem l6wRings_any (A' : Option Addr) (m d H' : Nat) (n : Nat) (L : List (List Int)) (w : World) (h' : RdS w H' A' m L) (hH : H' ≤ w.heap.size) (h3 : 3 ≤ n) (h6 : n ≤ 6) (hm : m ≤ 1000) (hT : ∀ t ∈ L, Prt (n : Int) t) :
    Calls Tryd.prog 26 #[.int .i64 (n : Int), .slice A' m d] w fun e w' => ∃ v, e = .returned v ∧ GrowS w' w.heap.size v (wovenL n L) ∧ Below w.heap.size w w' := by
  obtain ⟨i0, hi, hz0, hz1, hz2⟩ := info_parts row_info
  obtain ⟨hf1, hf2, hf3, hf4⟩ := facM_eq n h3 h6
  have HL := Lib.hid h'.len
  have HTT := Lib.hid hT
  have hg0 : Hid (GrowS (w.alloc (.cells #[] 26)) w.heap.size (.slice (some ⟨w.heap.size, 0, none⟩) 0 0) []) := GrowS.empty w (Nat.le_refl _)
  have hb0 : Below w.heap.size w (w.alloc (.cells #[] 26)) := (Below.refl _ _).alloc (Nat.le_refl _) _
  have hr0 := Lib.hid (h'.below (hb0.mono hH))
  have HFM := Lib.hid hf1
  obtain ⟨N, hN⟩ : ∃ N, N = facM n := ⟨_, rfl⟩
  rw [← hN] at HFM hf2
  have HN := Lib.hid hN
  have hfk : ∀ k : Nat, k < N → (k : Int) < facN (n - 1) := fun k hk => by rw [← HFM.out]; omega
  have HFK := Lib.hid hfk
  have HFACT := Lib.hid (fun W => facS_nat (n - 1) ((n : Int) - 1) W (by omega) (by omega))
  rw [← HFM.out] at HFACT
  have HBY := Lib.hid (fun k (hk : k < N) W => byS_any n (k : Int) W h3 (by omega) (by omega) (hfk k hk))
  have HIS := Lib.hid (fun k (hk : k < N) => byL_is n k h3 h6 (by rw [← hN]; exact hk))
  clear hT h' hf1 hf3 hf4 hN hfk
  go_enter Tryd.func26, Tryd.ntmps26
  go_wp2
  generalize w.alloc (.cells #[] 26) = W0 at *
  have hBw0 := hb0.size
  generalize hB : w.heap.size = B at *
  have HB := Lib.hid hB
  clear hB
  go_loopw [5, 6] (fun v i wr => ∃ k : Nat, k ≤ N ∧ i = .int .i64 k ∧ Hid (GrowS wr B v (wovTo n L k)) ∧ Hid (RdS wr H' A' m L) ∧ Below B w wr) (fun _ i _ => N - (intOf i).toNat)
  case atStart => exact ⟨0, Nat.zero_le _, rfl, by simpa [wovTo, Hid] using hg0, hr0, hb0⟩
  case round =>
    obtain ⟨k, hk, rfl, hgs, hrd, hbl⟩ := hrel
    clear hg0 hr0 hb0
    have HBL := Lib.hid hbl
    have hBw : B ≤ wr.heap.size := by rw [← HB.out]; exact hbl.size
    clear hbl
    by_cases hlt : k < N
    · have HS := Lib.hid (HBY.out k hlt)
      have hI := HIS.out k hlt
      have ht : Tell (byL n (k : Int)) := hI.tell h3 (by omega)
      have hlen : (byL n (k : Int)).length = n := hI.1
      go_wp2_with fail
      refine (HFACT.out _).mono ?_
      rintro e w' ⟨rfl, rfl⟩
      go_wp2_with fail
      refine (HS.out _).mono ?_
      rintro e w2 ⟨vr, rfl, ho, hb2⟩
      obtain ⟨Ar, cr, rfl⟩ := ho.slice
      have HG2 := Lib.hid (hgs.out.below hb2 (Nat.le_refl _))
      have HR2 := Lib.hid (hrd.out.below (hb2.mono (by omega)))
      have HRV := Lib.hid (ho.rowW.less hBw)
      have HBL2 := Lib.hid (HBL.out.trans (hb2.mono hBw))
      have hs2 := hb2.size
      have HYES := Lib.hid (wovTo_yes n L k)
      have HNO := Lib.hid (wovTo_no n L k)
      have hkl := wovTo_len n L k
      have HRD : Hid (Rd w2 w2.heap.size Ar n (byL n (k : Int))) := by have := ho.rd.2; rw [hlen] at this; exact this
      have HHAS := Lib.hid (fun (W : World) (j : Nat) (_ : j < L.length) (Aj : Option Addr) (cj : Nat) (H : Nat) (hW : Rd W H Ar n (byL n (k : Int))) (kW : Rd W H Aj (rowK L j).length (rowK L j)) (hHW : H ≤ W.heap.size) =>
        hasLS_any Ar Aj n cr (rowK L j).length cj H (byL n (k : Int)) (rowK L j) W hW kW hHW ht (by rw [hlen]; exact HTT.out _ (rowK_mem (by assumption))))
      rw [hlen] at HRV ⊢
      clear ho hb2 hI hgs hrd hlen ht
      obtain ⟨a, ha⟩ : ∃ a, a = byL n (k : Int) := ⟨_, rfl⟩
      rw [← ha] at HRV HRD HHAS HYES HNO
      clear ha
      have hBw2 : B ≤ w2.heap.size := by omega
      generalize hE : w2.heap.size = E at *
      have HE := Lib.hid hE
      clear hE
      have HRD0 := Lib.hid HRD.out
      have hEE : E ≤ w2.heap.size := by rw [HE.out]; exact Nat.le_refl _
      clear HRD HS HBY HIS
      have hkb : k ≤ 720 := by omega
      generalize wovTo n L k = M at *
      obtain ⟨M', hM'⟩ : ∃ M', M' = wovTo n L (k + 1) := ⟨_, rfl⟩
      rw [← hM'] at HYES HNO
      have HM' := Lib.hid hM'
      clear hM'
      go_wp2
      go_loopw [8, 9] (fun okv i wq => ∃ j : Nat, j ≤ m ∧ i = .int .i64 j ∧ okv = .bool (allTo1 a L j) ∧ Hid (GrowS wq B u5 M) ∧ Hid (RdS wq H' A' m L) ∧ Hid (Rd wq E Ar n a) ∧ Hid (RowV wq B (.slice Ar n cr) a) ∧ Hid (Below B w wq) ∧ E ≤ wq.heap.size) (fun _ i _ => m - (intOf i).toNat)
      case atStart => exact ⟨0, Nat.zero_le _, rfl, by simp [allTo1], HG2, HR2, HRD0, HRV, HBL2, hEE⟩
      case round =>
        obtain ⟨j, hj, rfl, rfl, hg, hr, hrd, hrv, hbl2, hEw⟩ := hrel
        clear HG2 HR2 HRD0 HRV HBL2 hEE
        by_cases hlj : j < m
        · have hjl : j < L.length := by rw [HL.out]; exact hlj
          obtain ⟨b, o, rfl, hbB, hcs⟩ := hr.out.at_ (by omega)
          obtain ⟨Aj, cj, hc, hrk, _, _⟩ := hcs j hlj
          have HST := Lib.hid (allTo1_step a L j hjl)
          have HC := Lib.hid (HHAS.out wr j hjl Aj cj E hrd.out (hrk.more (by omega)) hEw)
          clear hcs hrk
          generalize hasL a (rowK L j) = h1 at *
          generalize (rowK L j).length = z at *
          cases hok : allTo1 a L j with
          | false =>
            rw [hok] at HST
            clear HC hok
            go_wp2
            go_roundw
            case rel => exact ⟨j + 1, by omega, by go_num, by rw [HST.out]; rfl, hg, hr, hrd, hrv, hbl2, hEw⟩
            case measure => simp [intOf]; omega
          | true =>
            rw [hok, Bool.true_and] at HST
            clear hok
            go_wp2_with (go_at_call 52; refine HC.out.mono ?_; rintro e w5 ⟨rfl, hb5⟩)
            go_roundw
            case rel => exact ⟨j + 1, by omega, by go_num, by rw [HST.out], Lib.hid (hg.out.below hb5 (Nat.le_refl _)), Lib.hid (hr.out.below (hb5.mono (by omega))), Lib.hid (hrd.out.below (hb5.mono hEw)), Lib.hid (hrv.out.below5 hb5), Lib.hid (hbl2.out.trans (hb5.mono (by omega))), Nat.le_trans hEw hb5.size⟩
            case measure => simp [intOf]; omega
        · obtain rfl : j = m := by omega
          have HAL : Hid (allTo1 a L j = L.all (hasL a)) := by rw [Hid, ← HL.out]; exact allTo1_full a L
          rw [HAL.out]
          cases hall : L.all (hasL a) with
          | true =>
            have HST := Lib.hid (HYES.out hall)
            clear HYES HNO hall HAL HHAS
            obtain ⟨xs, hx1, hx2⟩ := hg.out
            have HX1 := Lib.hid hx1
            have HX2 := Lib.hid hx2
            have hMb : M.length ≤ 720 := by omega
            have hEB : B ≤ wr.heap.size := by omega
            clear hx1 hx2
            go_wp2_with (at_builtin; refine wpList_append_own _ rfl _ _ 23 rfl B 26 i0 (.slice none 0 0) 1 24 Tryd.underlying23 hi hz0 hz1 hz2 rfl (by decide) _ _ _ rfl (HX1.out.alloc _) ⟨wr.heap.size, 0, none⟩ 1 1 [.slice Ar n cr] rfl rfl (one_cell wr _ _) (by simp [Value.oneCell']) (by unfold maxLen; omega) (by omega) (by simp; omega) ?_)
            intro v' w5 hown5 hgr5 _
            have HG5 := Lib.hid (grow_row rfl HX1.out HX2.out hrv.out _ hown5 hgr5)
            rw [HST.out] at HG5
            have HB5 := Lib.hid ((hbl2.out.alloc hEB _).grown hgr5 (by simp; omega) (fun i hi => (HX1.out.lt i hi).1))
            have HR5 := Lib.hid (hr.out.below (((Below.refl H' wr).alloc (by omega) _).grown hgr5 (by simp; omega) (fun i hi => by have := (HX1.out.lt i hi).1; omega)))
            clear hown5 hgr5
            go_wp2
            go_roundw
            case rel => exact ⟨k + 1, by omega, by go_num, by rw [← HM'.out]; exact HG5, HR5, HB5.out⟩
            case measure => simp [intOf]; omega
          | false =>
            have HST := Lib.hid (HNO.out hall)
            clear HYES HNO hall HAL HHAS
            rw [HST.out] at hg
            go_wp2
            go_roundw
            case rel => exact ⟨k + 1, by omega, by go_num, by rw [← HM'.out]; exact hg, hr, hbl2.out⟩
            case measure => simp [intOf]; omega
    · obtain rfl : k = N := by omega
      go_wp2_with fail
      refine (HFACT.out _).mono ?_
      rintro e w' ⟨rfl, rfl⟩
      rw [HN.out, wovTo_full] at hgs
      go_wp2
      go_ret
      exact ⟨_, rfl, by rw [HB.out]; exact hgs.out, by rw [HB.out]; exact HBL.out⟩
end Go.Proofs.YtgojojoanhilnabDoor
