/- ArcMost of the model and of the program. -/
import Derived.Test.YtknjioibmgkpmaaArH
namespace Go.Proofs.Ytknjioibmgkpmaa
open Go.ChangeShapes Go.WideShapes Go.ChangeAt Go.RowKit

/-- The greatest number of a family's sets that are arcs of one of the first k rings. -/
def mostA (n : Nat) (L : List Int) : Nat → Nat
  | 0 => 0
  | k + 1 => max (mostA n L k) (cntA (byL n (k : Int)) L)
theorem mostA_len (n : Nat) (L : List Int) : ∀ k, mostA n L k ≤ L.length
  | 0 => Nat.zero_le _
  | k + 1 => by
    have h1 := mostA_len n L k
    have h2 : cntA (byL n (k : Int)) L ≤ L.length := List.length_filter_le _ _
    unfold mostA
    omega
def amR (q : Int) (L : List Int) : Int := if Fam q L then (mostA q.toNat L (facM q.toNat) : Nat) else 0

set_option maxRecDepth 10000 in
set_option maxHeartbeats 2000000 in
theorem amI_any (A : Option Addr) (m c H : Nat) (q : Int) (L : List Int) (w : World) (h : Rd w H A m L) (hH : H ≤ w.heap.size) (hm : m ≤ 1048576) (_ : m ≤ c) (_ : c ≤ 9223372036854775807) :
    Calls Try.prog 36 #[.int .i64 q, .slice A m c] w fun e w' => e = .returned (.tuple #[.int .i64 (amR q L), .bool (famB q L)]) ∧ Below w.heap.size w w' := by
  have HC := Lib.hid (readFam_any A m c H L q w h hH hm)
  by_cases ht : Fam q L
  rotate_left
  · have HR : Hid (amR q L = 0) := by rw [Hid, amR, if_neg ht]
    rw [fam_no ht] at HC ⊢
    rw [HR.out]
    clear h ht
    go_enter Try.func36, Try.ntmps36
    go_wp2_with fail
    refine HC.out.mono ?_
    rintro e w1 ⟨v1, rfl, _, hn, hb1⟩
    obtain rfl := hn (by simp)
    go_wp2
    go_ret2
    exact ⟨rfl, hb1⟩
  obtain ⟨n, rfl, h3, h6, h10, h128⟩ := fam_nat ht
  have HR : Hid (amR (n : Int) L = (mostA n L (facM n) : Nat)) := by rw [Hid, amR, if_pos ht, Int.toNat_natCast]
  rw [fam_yes ht] at HC ⊢
  rw [HR.out]
  have hn8 := (facM_eq n h3 h6).2.1
  have HALL := Lib.hid (fun W => allRings_any n W h3 h6)
  have hpl : (padM (ringsL n)).length = facM n := by simp [padM, ringsL_length]
  have HPL := Lib.hid hpl
  have HROW : Hid (∀ k, k < facM n → rowK (padM (ringsL n)) k = padR (byL n (k : Int))) := fun k hk => by
    simp [padM, ringsL, rowK, List.getD, hk]
  have HIS := Lib.hid (fun k (hk : k < facM n) => byL_is n k h3 h6 hk)
  have H7 := Lib.hid (fun (k : Nat) => padR_length (byL n (k : Int)) (by rw [byL_length]; omega))
  have HLK := Lib.hid (fun k (hk : k < facM n) W => linked_any (byL n (k : Int)) W (by rw [byL_length]; omega) (by rw [byL_length]; omega) (fun x hx => (isR_bd (byL_is n k h3 h6 hk) h3 (by omega) x hx).1))
  have HPC := Lib.hid (fun k (hk : k < facM n) (g : Nat → Nat) (D B : Nat) (v : Value) W (hl : Lnk W D g (byL n (k : Int))) (hv : FamV W B v L) => places_any (byL n (k : Int)) L D B g v W hl hv (by rw [byL_length]; omega) (by rw [byL_length]; omega) (isR_bd (byL_is n k h3 h6 hk) h3 (by omega)) (fun s hs => (h128 s hs).2) h10)
  have HMB := Lib.hid (fun k => mostA_len n L k)
  have HCB : Hid (∀ k : Nat, cntA (byL n (k : Int)) L ≤ L.length) := fun k => List.length_filter_le _ _
  have HST : Hid (∀ k, mostA n L (k + 1) = max (mostA n L k) (cntA (byL n (k : Int)) L)) := fun k => rfl
  obtain ⟨N, hN⟩ : ∃ N, N = facM n := ⟨_, rfl⟩
  rw [← hN] at HPL HROW HIS HLK HPC hn8 ⊢
  have HN1 : Hid (0 < N) := by have := (facM_eq n h3 h6).2.2.1; rw [Hid]; omega
  clear h ht hpl h128 HR hN HIS
  unfold agp at HLK
  go_enter Try.func36, Try.ntmps36
  go_wp2_with fail
  refine HC.out.mono ?_
  rintro e w1 ⟨v1, rfl, hf, _, hb1⟩
  have hf1 := hf (by simp)
  have HF1 := Lib.hid (fun (W : World) (hW : Below w1.heap.size w1 W) => hf1.below hW (Nat.le_refl _))
  have HB1 := Lib.hid hb1
  obtain ⟨A1, c1, rfl⟩ := hf1.slice
  obtain ⟨z, hz⟩ : ∃ z, z = L.length := ⟨_, rfl⟩
  rw [← hz] at HF1 HMB HCB h10 ⊢
  clear hf hf1 hb1 hz
  go_wp2_with fail
  refine (HALL.out _).mono ?_
  rintro e w2 ⟨v2, rfl, hr2, hb2⟩
  obtain ⟨A2, c2, rfl⟩ := hr2.slice
  rw [HPL.out] at hr2 ⊢
  have HR2 := Lib.hid hr2
  have HB2 := Lib.hid hb2
  clear hr2 hb2
  go_wp2_with fail
  have hN1 : 0 < N := HN1.out
  obtain ⟨g, e⟩ : ∃ g, A2 = some ⟨g, 0, none⟩ := by
    obtain ⟨g, c', e0, _⟩ := HR2.out.elem (k := 0) (by rw [HPL.out]; exact hN1)
    rw [HPL.out] at e0
    injection e0 with e1 _ _
    exact ⟨g, e1⟩
  subst e
  have HW2 : Hid (Below w1.heap.size w1 w2) := HB2
  have HM0 : Hid (mostA n L 0 = 0) := rfl
  have hEl : ∀ i, (Value.slice (some ⟨g, 0, none⟩) N c2).ownBlock = some i → i < w2.heap.size := fun i hi => (HR2.out.lt i hi).2
  go_loopw [8, 22] (fun v i wr => ∃ k : Nat, k ≤ N ∧ v = .int .i64 (mostA n L k : Int) ∧ i = .int .i64 k ∧ Hid (Below w2.heap.size w2 wr)) (fun _ i _ => N - (intOf i).toNat)
  case atStart => exact ⟨0, Nat.zero_le _, by rw [HM0.out]; rfl, rfl, Below.refl _ _⟩
  case round =>
    obtain ⟨k, hk, rfl, rfl, hbl⟩ := hrel
    have HBW : Hid (Below w1.heap.size w1 wr) := HW2.out.trans (hbl.out.mono HW2.out.size)
    by_cases hlt : k < N
    · have HR3 := Lib.hid (HR2.out.below hbl.out hEl)
      have HKL : Hid (k < (padM (ringsL n)).length) := by rw [Hid, HPL.out]; exact hlt
      have HPAD := Lib.hid (HROW.out k hlt)
      have HLKk := Lib.hid (HLK.out k hlt)
      have HPCk := Lib.hid (HPC.out k hlt)
      have H7k := H7.out k
      have HNT := Lib.hid (new_ring wr)
      have hstep := HST.out k
      have hb1 := HMB.out k
      have hb2 := HMB.out (k + 1)
      have hb3 := HCB.out k
      obtain ⟨r1, hr1⟩ : ∃ r1, r1 = mostA n L (k + 1) := ⟨_, rfl⟩
      have HR1 := Lib.hid hr1
      rw [← hr1] at hstep hb2
      have hsw : w2.heap.size ≤ wr.heap.size := hbl.out.size
      clear hr1
      generalize mostA n L k = r at *
      generalize hq : cntA (byL n (k : Int)) L = q at *
      generalize padR (byL n (k : Int)) = P at *
      have HS := Lib.hid hstep
      clear hstep hq
      go_wp2_with (first
        | (refine load_elem rfl _ 55 rfl _ rfl Try.underlying55 g N c2 w1.heap.size k 7 (padM (ringsL n)) HR3 HKL.out ring_size rfl ?_; rw [HPAD.out])
        | (refine store_ring rfl _ _ rfl wr.heap.size zero7 P rfl H7k rfl rfl HNT ?_; intro w6 HA6 hg6 hs6
           have HB6 : Hid (Below w2.heap.size w2 w6) := (hbl.out.alloc hsw (.cells #[.int .i64 0, .int .i64 0, .int .i64 0, .int .i64 0, .int .i64 0, .int .i64 0, .int .i64 0] 55)).grown hg6 (by simp; omega) (by simp; omega)
           clear hg6 hs6)
        | (refine load_ring rfl _ rfl wr.heap.size P H7k rfl HA6 ?_)
        | (go_at_call 61; refine (HLKk.out _).mono ?_; rintro e w7 ⟨gl, rfl, hl7, hb7⟩
           have HB7 : Hid (Below w2.heap.size w2 w7) := HB6.out.trans (hb7.mono HB6.out.size)
           have HF7 := Lib.hid (HF1.out w7 (HW2.out.trans (HB7.out.mono HW2.out.size)))
           have HP7 := Lib.hid (HPCk.out gl _ _ _ w7 hl7 HF7.out)
           clear hl7 hb7)
        | (go_at_call 62; refine HP7.out.mono ?_; rintro e w8 ⟨rfl, hb8⟩
           have HB8 : Hid (Below w2.heap.size w2 w8) := HB7.out.trans (hb8.mono HB7.out.size)
           clear hb8))
      go_roundw
      case rel => exact ⟨k + 1, by omega, by rw [← HR1.out, HS.out]; first | rfl | (congr 1; omega), by go_num, HB8⟩
      case measure => simp [intOf]; omega
    · obtain rfl : k = N := by omega
      go_wp2
      go_ret2
      exact ⟨rfl, HB1.out.trans (HBW.out.mono HB1.out.size)⟩

set_option maxRecDepth 10000 in
set_option maxHeartbeats 2000000 in
theorem amS_any (A' : Option Addr) (m d H' : Nat) (q : Int) (L : List Int) (w : World) (h' : Rd w H' A' m L) (hH : H' ≤ w.heap.size) (hm : m ≤ 1048576) :
    Calls Try.prog 35 #[.int .i64 q, .slice A' m d] w fun e w' => e = .returned (.tuple #[.int .i64 (amR q L), .bool (famB q L)]) ∧ Below w.heap.size w w' := by
  have HC := Lib.hid (famS_any A' m d H' L q w h' hm)
  by_cases ht : Fam q L
  rotate_left
  · have HR : Hid (amR q L = 0) := by rw [Hid, amR, if_neg ht]
    rw [fam_no ht] at HC ⊢
    rw [HR.out]
    clear h' ht
    go_enter Try.func35, Try.ntmps35
    go_wp2_with (go_at_call 25; refine HC.out.mono ?_; rintro e w1 ⟨rfl, p, rfl⟩)
    go_ret2
    exact ⟨rfl, below_drewN (Below.refl _ _) p⟩
  obtain ⟨n, rfl, h3, h6, h10, hs⟩ := fam_nat ht
  have HR : Hid (amR (n : Int) L = (mostA n L (facM n) : Nat)) := by rw [Hid, amR, if_pos ht, Int.toNat_natCast]
  rw [fam_yes ht] at HC ⊢
  rw [HR.out]
  obtain ⟨hf1, hf2, hf3, hf4⟩ := facM_eq n h3 h6
  have HL := Lib.hid h'.len
  rw [HL.out] at h10
  have HSB := Lib.hid (fun k (hk : k < m) => hs _ (getD_mem L k (by rw [HL.out]; exact hk)))
  have HRD := Lib.hid (fun (W : World) (hW : Below w.heap.size w W) => h'.below (hW.mono hH))
  have HFM := Lib.hid hf1
  obtain ⟨N, hN⟩ : ∃ N, N = facM n := ⟨_, rfl⟩
  rw [← hN] at HFM hf2 ⊢
  have hfk : ∀ k : Nat, k < N → (k : Int) < facN (n - 1) := fun k hk => by rw [← HFM.out]; omega
  have HFACT := Lib.hid (fun W => facS_nat (n - 1) ((n : Int) - 1) W (by omega) (by omega))
  rw [← HFM.out] at HFACT
  have HBY := Lib.hid (fun k (hk : k < N) W => byS_any n (k : Int) W h3 (by omega) (by omega) (hfk k hk))
  have HIS := Lib.hid (fun k (hk : k < N) => byL_is n k h3 h6 (by rw [← hN]; exact hk))
  have HMB := Lib.hid (fun k => mostA_len n L k)
  have HST : Hid (∀ k, mostA n L (k + 1) = max (mostA n L k) (cntA (byL n (k : Int)) L)) := fun k => rfl
  have HM0 : Hid (mostA n L 0 = 0) := rfl
  clear hs h' hf1 hf3 hf4 hN hfk ht HR
  go_enter Try.func35, Try.ntmps35
  go_wp2_with (go_at_call 25; refine HC.out.mono ?_; rintro e w1 ⟨rfl, p, rfl⟩)
  have HB0 := Lib.hid (below_drewN (Below.refl w.heap.size w) p)
  generalize w.drewN p = W0 at *
  go_loopw [6, 7] (fun v i wr => ∃ k : Nat, k ≤ N ∧ v = .int .i64 (mostA n L k : Int) ∧ i = .int .i64 k ∧ Hid (Below w.heap.size w wr)) (fun _ i _ => N - (intOf i).toNat)
  case atStart => exact ⟨0, Nat.zero_le _, by rw [HM0.out]; rfl, rfl, HB0⟩
  case round =>
    obtain ⟨k, hk, rfl, rfl, hbl⟩ := hrel
    have hBw : w.heap.size ≤ wr.heap.size := hbl.out.size
    by_cases hlt : k < N
    · have HS := Lib.hid (HBY.out k hlt)
      have hI := HIS.out k hlt
      have hlen : (byL n (k : Int)).length = n := hI.1
      have hstep := HST.out k
      have hmb1 := HMB.out k
      have hmb2 := HMB.out (k + 1)
      rw [HL.out] at hmb1 hmb2
      go_wp2_with fail
      refine (HFACT.out _).mono ?_
      rintro e w' ⟨rfl, rfl⟩
      go_wp2_with fail
      refine (HS.out _).mono ?_
      rintro e w2 ⟨vr, rfl, ho, hb2⟩
      obtain ⟨Ar, cr, rfl⟩ := ho.slice
      have HB2 := Lib.hid (hbl.out.trans (hb2.mono hBw))
      have HR2 := Lib.hid (HRD.out w2 HB2.out)
      have HRD2 : Hid (Rd w2 w2.heap.size Ar n (byL n (k : Int))) := by have := ho.rd.2; rw [hlen] at this; exact this
      have hbd := isR_bd hI h3 (by omega)
      have HRUN := Lib.hid (fun (s : Nat) (hs : s < 128) => runS_any Ar n cr _ (byL n (k : Int)) s w2 HRD2.out (by omega) (by omega) hbd hs)
      rw [hlen]
      clear ho hb2 hI hlen hbd HRD2 HS
      obtain ⟨a, ha⟩ : ∃ a, a = byL n (k : Int) := ⟨_, rfl⟩
      rw [← ha] at HRUN hstep
      clear ha
      obtain ⟨r1, hr1⟩ : ∃ r1, r1 = mostA n L (k + 1) := ⟨_, rfl⟩
      have HR1 := Lib.hid hr1
      rw [← hr1] at hstep hmb2
      clear hr1
      generalize mostA n L k = r at *
      have HSTEP := Lib.hid hstep
      clear hstep
      have HI7 : Hid (∀ s : Nat, isA7 a (s : Int) = ((runN (hasN s) a : Int) == 1)) := fun s => by rw [isA7, Int.toNat_natCast, Bool.eq_iff_iff, decide_eq_true_iff, beq_iff_eq]; omega
      have HC1 := Lib.hid (fun j => cntTo_step a L j)
      have HC2 := Lib.hid (fun j => cntTo_len a L j)
      have HC3 : Hid (cntTo a L m = cntA a L) := by rw [Hid, ← HL.out]; exact cntTo_full a L
      have HC0 : Hid (cntTo a L 0 = 0) := rfl
      rw [← HC3.out] at HSTEP
      clear HC3
      generalize cntTo a L = R at *
      go_wp2
      go_loop [9, 10] (fun v i => ∃ j : Nat, j ≤ m ∧ i = .int .i64 j ∧ v = .int .i64 (R j : Int)) (fun _ i => m - (intOf i).toNat)
      case atStart => exact ⟨0, Nat.zero_le _, rfl, by rw [HC0.out]; rfl⟩
      case round =>
        obtain ⟨j, hj, rfl, rfl⟩ := hrel
        by_cases hlj : j < m
        · have hjl : j < L.length := by rw [HL.out]; exact hlj
          obtain ⟨b, o, rfl, hbB, hcs⟩ := HR2.out.at_ (by omega)
          have hc := hcs j hlj
          have hst := HC1.out j hjl
          have hsb := HSB.out j hlj
          have hj1 := HC2.out j
          have hj2 := HC2.out (j + 1)
          clear hcs
          generalize L.getD j 0 = x at *
          obtain ⟨s, rfl⟩ : ∃ s : Nat, x = (s : Int) := ⟨x.toNat, by omega⟩
          have HCC := Lib.hid (HRUN.out s (by omega))
          rw [HI7.out] at hst
          obtain ⟨q1, hq1⟩ : ∃ q1, q1 = R (j + 1) := ⟨_, rfl⟩
          have HQ1 := Lib.hid hq1
          rw [← hq1] at hst hj2
          clear hq1
          generalize R j = q0 at *
          generalize runN (hasN s) a = z at *
          by_cases hz : z = 1
          · have hb : ((z : Int) == 1) = true := by simp; omega
            have HQ : Hid (q1 = q0 + 1) := by rw [Hid, hst, if_pos hb]
            clear hst hz
            go_wp2_with (go_at_call 46; refine HCC.out.mono ?_; rintro e w5 ⟨rfl, rfl⟩)
            go_round
            case rel => exact ⟨j + 1, by omega, by go_num, by rw [← HQ1.out, HQ.out]; try go_num⟩
            case measure => simp [intOf]; omega
          · have hb : ((z : Int) == 1) = false := by simp; omega
            have HQ : Hid (q1 = q0) := by rw [Hid, hst, if_neg (by rw [hb]; simp), Nat.add_zero]
            clear hst hz
            go_wp2_with (go_at_call 46; refine HCC.out.mono ?_; rintro e w5 ⟨rfl, rfl⟩)
            go_round
            case rel => exact ⟨j + 1, by omega, by go_num, by rw [← HQ1.out, HQ.out]⟩
            case measure => simp [intOf]; omega
        · obtain rfl : j = m := by omega
          have hj1 := HC2.out j
          generalize R j = q0 at *
          go_wp2
          go_roundw
          case rel => exact ⟨k + 1, by omega, by rw [← HR1.out, HSTEP.out]; first | rfl | (congr 1; omega), by go_num, HB2⟩
          case measure => simp [intOf]; omega
    · obtain rfl : k = N := by omega
      go_wp2_with fail
      refine (HFACT.out _).mono ?_
      rintro e w' ⟨rfl, rfl⟩
      go_wp2
      go_ret2
      exact ⟨rfl, hbl.out⟩
theorem amS_law (A : Option Addr) (m c H : Nat) (q : Int) (L : List Int) (w : World) (h : Rd w H A m L) (hH : H ≤ w.heap.size) (hm : m ≤ 1048576) :
    Calls Try.prog 35 #[.int .i64 q, .slice A m c] w fun e w' => e = .returned (.tuple #[.int .i64 (amR q L), .bool (famB q L)]) ∧ Below w.heap.size w w' := amS_any A m c H q L w h hH hm
end Go.Proofs.Ytknjioibmgkpmaa
