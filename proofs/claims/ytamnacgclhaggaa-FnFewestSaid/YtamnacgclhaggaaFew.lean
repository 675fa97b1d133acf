/- The first ring with fewest pairs that part each other: what it is; PairFewest of the model. -/
import Derived.Test.YtamnacgclhaggaaChS
import Derived.Test.YtamnacgclhaggaaPR
import Derived.Test.YtamnacgclhaggaaCC
namespace Go.Proofs.Ytamnacgclhaggaa
open Go.ChangeShapes Go.WideShapes Go.ChangeAt Go.RowKit

/-- The best of the first k rings, and how many it has. -/
def bsf (n : Nat) (L : List (List Int)) : Nat → List Int × Int
  | 0 => ([], -1)
  | k + 1 => if (bsf n L k).2 < 0 ∨ (chN (byL n (k : Int)) L : Int) < (bsf n L k).2 then (byL n (k : Int), (chN (byL n (k : Int)) L : Int)) else bsf n L k
theorem bsf_is (n : Nat) (L : List (List Int)) : ∀ k, 0 < k → ∃ j : Nat, j < k ∧ (bsf n L k).1 = byL n (j : Int) ∧ (bsf n L k).2 = (chN (byL n (j : Int)) L : Int)
  | 0, h => absurd h (by omega)
  | k + 1, _ => by
    by_cases hc : (bsf n L k).2 < 0 ∨ (chN (byL n (k : Int)) L : Int) < (bsf n L k).2
    · exact ⟨k, by omega, by rw [bsf, if_pos hc], by rw [bsf, if_pos hc]⟩
    · have hk : 0 < k := by
        rcases Nat.eq_zero_or_pos k with e | e
        · subst e; exact absurd (.inl (by simp [bsf])) hc
        · exact e
      obtain ⟨j, hj, h1, h2⟩ := bsf_is n L k hk
      exact ⟨j, by omega, by rw [bsf, if_neg hc]; exact h1, by rw [bsf, if_neg hc]; exact h2⟩
theorem chN_le (l : List Int) (L : List (List Int)) (h : L.length ≤ 8) : chN l L ≤ 64 := by
  have := cout_le (chkF l L) L.length h
  unfold chN; omega
theorem bsf_bd (n : Nat) (L : List (List Int)) (k : Nat) (h : L.length ≤ 8) : -1 ≤ (bsf n L k).2 ∧ (bsf n L k).2 ≤ 64 := by
  rcases Nat.eq_zero_or_pos k with e | e
  · subst e; exact ⟨by simp [bsf], by simp only [bsf]; omega⟩
  · obtain ⟨j, _, _, h2⟩ := bsf_is n L k e
    have := chN_le (byL n (j : Int)) L h
    rw [h2]; omega
def fewL (n : Nat) (L : List (List Int)) : List Int := (bsf n L (facM n)).1
def fewV (n : Nat) (L : List (List Int)) : Int := (bsf n L (facM n)).2
theorem few_is (n : Nat) (L : List (List Int)) (h3 : 3 ≤ n) (h6 : n ≤ 6) : IsR n (fewL n L) ∧ fewV n L = (chN (fewL n L) L : Int) := by
  obtain ⟨j, hj, h1, h2⟩ := bsf_is n L (facM n) (by have := (facM_eq n h3 h6).2.2.1; omega)
  unfold fewL fewV
  rw [h1, h2]
  exact ⟨byL_is n j h3 h6 hj, rfl⟩
def feB (q : Int) (L : List (List Int)) : Bool := (decide (4 ≤ q) && decide (q ≤ 6)) && choB q L
def feV (q : Int) (L : List (List Int)) : Int := if feB q L then fewV q.toNat L else 0
def feL (q : Int) (L : List (List Int)) : List Int := if feB q L then fewL q.toNat L else []
theorem fe_nat {q : Int} {L : List (List Int)} (h : feB q L = true) : ∃ n : Nat, q = n ∧ 4 ≤ n ∧ n ≤ 6 ∧ choB q L = true := by
  unfold feB at h
  simp only [Bool.and_eq_true, decide_eq_true_eq] at h
  exact ⟨q.toNat, by omega, by omega, by omega, h.2⟩
theorem feL_length (q : Int) (L : List (List Int)) : (feL q L).length ≤ 7 := by
  unfold feL
  split
  · rename_i ht
    obtain ⟨n, rfl, h4, h6, _⟩ := fe_nat ht
    have := (few_is n L (by omega) h6).1.1
    rw [Int.toNat_natCast]; omega
  · simp

set_option maxRecDepth 10000 in
set_option maxHeartbeats 2000000 in
theorem feS_any (A' : Option Addr) (m d H' : Nat) (q : Int) (L : List (List Int)) (w : World) (h' : RdS w H' A' m L) (hH : H' ≤ w.heap.size) (htot : tot L ≤ 1048576) :
    Calls Try.prog 39 #[.int .i64 q, .slice A' m d] w fun e w' => ∃ v, e = .returned (.tuple #[.int .i64 (feV q L), v, .bool (feB q L)]) ∧ OwnG w' w.heap.size v (feL q L) ∧ Below w.heap.size w w' := by
  have hm' : m ≤ 1048576 := by have := h'.len; unfold tot at htot; omega
  have hg0 : Hid (OwnG (w.alloc (.cells #[] 3)) w.heap.size (.slice (some ⟨w.heap.size, 0, none⟩) 0 0) []) := (own_empty w _ (Nat.le_refl _)).gen
  have hb0 : Below w.heap.size w (w.alloc (.cells #[] 3)) := (Below.refl _ _).alloc (Nat.le_refl _) _
  by_cases hn : 4 ≤ q ∧ q ≤ 6
  rotate_left
  · have hb : (decide (4 ≤ q) && decide (q ≤ 6)) = false := by simp; omega
    have T1 : Hid (feB q L = false ∧ feV q L = 0 ∧ feL q L = []) := by
      have e : feB q L = false := by rw [feB, hb]; simp
      exact ⟨e, by rw [feV, e]; simp, by rw [feL, e]; simp⟩
    rw [T1.out.1, T1.out.2.1, T1.out.2.2]
    clear hn h'
    go_enter Try.func39, Try.ntmps39
    go_wp2_with (go_at_call 67; refine (in_any _ _ _ _).mono ?_; rintro e w' ⟨rfl, rfl⟩)
    go_ret3
    exact ⟨_, rfl, hg0.out, hb0⟩
  obtain ⟨n, hqn, h4, h6⟩ : ∃ n : Nat, q = n ∧ 4 ≤ n ∧ n ≤ 6 := ⟨q.toNat, by omega, by omega, by omega⟩
  subst hqn
  have hb : (decide (4 ≤ (n : Int)) && decide ((n : Int) ≤ 6)) = true := by simp; omega
  have HC := Lib.hid (l3Chords_any A' m d H' L (n : Int) w h' hm' (by omega) (by omega))
  cases hc : choB (n : Int) L
  · have T1 : Hid (feB (n : Int) L = false ∧ feV (n : Int) L = 0 ∧ feL (n : Int) L = []) := by
      have e : feB (n : Int) L = false := by rw [feB, hc]; simp
      exact ⟨e, by rw [feV, e]; simp, by rw [feL, e]; simp⟩
    rw [T1.out.1, T1.out.2.1, T1.out.2.2]
    rw [hc] at HC
    clear hn h' hc hg0 hb0
    go_enter Try.func39, Try.ntmps39
    go_wp2_with (first
      | (go_at_call 67; refine (in_any _ _ _ _).mono ?_; rintro e w' ⟨rfl, rfl⟩)
      | (go_at_call 79; refine HC.out.mono ?_; rintro e w' ⟨rfl, p, rfl⟩))
    go_ret3
    exact ⟨_, rfl, (show OwnG _ _ _ _ from (own_empty (w.drewN p) _ (Nat.le_refl _)).gen), (below_drewN (Below.refl _ _) p).alloc (Nat.le_refl _) _⟩
  have hcy := cho_yes hc
  rw [hc] at HC
  have T1 : Hid (feB (n : Int) L = true ∧ feV (n : Int) L = (bsf n L (facM n)).2 ∧ feL (n : Int) L = (bsf n L (facM n)).1) := by
    have e : feB (n : Int) L = true := by rw [feB, hc, hb]; simp
    exact ⟨e, by rw [feV, e, if_pos rfl, Int.toNat_natCast]; rfl, by rw [feL, e, if_pos rfl, Int.toNat_natCast]; rfl⟩
  rw [T1.out.1, T1.out.2.1, T1.out.2.2]
  obtain ⟨hf1, hf2, hf3, hf4⟩ := facM_eq n (by omega) h6
  have hm8 : m ≤ 8 := by have := h'.len; omega
  have HTT := Lib.hid hcy.2
  have H8 := Lib.hid hcy.1
  have HFM := Lib.hid hf1
  obtain ⟨N, hN⟩ : ∃ N, N = facM n := ⟨_, rfl⟩
  rw [← hN] at HFM hf2 ⊢
  have hfk : ∀ k : Nat, k < N → (k : Int) < facN (n - 1) := fun k hk => by rw [← HFM.out]; omega
  have HFACT := Lib.hid (fun W => facS_nat (n - 1) ((n : Int) - 1) W (by omega) (by omega))
  rw [← HFM.out] at HFACT
  have HBY := Lib.hid (fun k (hk : k < N) W => byS_any n (k : Int) W (by omega) (by omega) (by omega) (hfk k hk))
  have HIS := Lib.hid (fun k (hk : k < N) => byL_is n k (by omega) h6 (by rw [← hN]; exact hk))
  have HRS := Lib.hid h'
  clear hn h' hc hf1 hf3 hf4 hN hfk T1 hcy hg0 hb0
  go_enter Try.func39, Try.ntmps39
  go_wp2_with (first
    | (go_at_call 67; refine (in_any _ _ _ _).mono ?_; rintro e w' ⟨rfl, rfl⟩)
    | (go_at_call 79; refine HC.out.mono ?_; rintro e w' ⟨rfl, p, rfl⟩))
  have hg0 : Hid (OwnG ((w.drewN p).alloc (.cells #[] 3)) w.heap.size (.slice (some ⟨w.heap.size, 0, none⟩) 0 0) []) := (own_empty (w.drewN p) _ (Nat.le_refl _)).gen
  have hb0 : Below w.heap.size w ((w.drewN p).alloc (.cells #[] 3)) := (below_drewN (Below.refl _ _) p).alloc (Nat.le_refl _) _
  have hr0 := Lib.hid (HRS.out.below (hb0.mono hH))
  generalize (w.drewN p).alloc (.cells #[] 3) = W0 at *
  clear HRS HC
  generalize hB : w.heap.size = B at *
  have HB := Lib.hid hB
  clear hB
  go_loopw [7, 8, 9] (fun s v i wr => ∃ k : Nat, k ≤ N ∧ i = .int .i64 k ∧ s = .int .i64 (bsf n L k).2 ∧ Hid (OwnG wr B v (bsf n L k).1) ∧ Hid (RdS wr H' A' m L) ∧ Below B w wr) (fun _ _ i _ => N - (intOf i).toNat)
  case atStart => exact ⟨0, Nat.zero_le _, rfl, rfl, hg0, hr0, hb0⟩
  case round =>
    obtain ⟨k, hk, rfl, rfl, hgs, hrd, hbl⟩ := hrel
    clear hg0 hr0 hb0
    have HBL := Lib.hid hbl
    have hBw : B ≤ wr.heap.size := by rw [← HB.out]; exact hbl.size
    clear hbl
    by_cases hlt : k < N
    · have HS := Lib.hid (HBY.out k hlt)
      have hI := HIS.out k hlt
      have HI := Lib.hid hI
      obtain ⟨hbd1, hbd2⟩ := bsf_bd n L k H8.out
      have HST : Hid (bsf n L (k + 1) = if (bsf n L k).2 < 0 ∨ (chN (byL n (k : Int)) L : Int) < (bsf n L k).2 then (byL n (k : Int), (chN (byL n (k : Int)) L : Int)) else bsf n L k) := rfl
      obtain ⟨mv, hmv⟩ : ∃ mv, mv = (bsf n L k).2 := ⟨_, rfl⟩
      rw [← hmv] at hbd1 hbd2 ⊢
      have HMV := Lib.hid hmv
      clear hmv
      go_wp2_with fail
      refine (HFACT.out _).mono ?_
      rintro e w0 ⟨rfl, rfl⟩
      go_wp2_with fail
      refine (HS.out _).mono ?_
      rintro e w2 ⟨vr, rfl, ho, hb2⟩
      obtain ⟨Ar, cr, rfl⟩ := ho.slice
      have hl : (byL n k).length = n := hI.1
      have HG2 := Lib.hid (hgs.out.same (fun i hi => hb2.block i (hgs.out.lt i hi).2))
      have hr2 := hrd.out.below (hb2.mono (by omega))
      have hrv := (own_less ho hBw).gen
      have HBL2 := Lib.hid (HBL.out.trans (hb2.mono hBw))
      have hs2 := hb2.size
      have hcl := chN_le (byL n (k : Int)) L H8.out
      have hrd2 := ho.rd.2
      rw [hl] at hrv hrd2 ⊢
      have HMA := Lib.hid (l3Count_any Ar n cr w2.heap.size (byL n k) A' m d L w2 hrd2 (hr2.more (by omega)) (Nat.le_refl _) (hI.tell (by omega) (by omega)) hm8 HTT.out)
      have HR2 := Lib.hid hr2
      have HRV := Lib.hid hrv
      obtain ⟨c, hq⟩ : ∃ c, c = chN (byL n (k : Int)) L := ⟨_, rfl⟩
      rw [← hq] at HMA hcl HST
      clear ho hb2 hI hgs hrd hl hq hrd2 hr2 hrv
      go_wp2_with fail
      refine HMA.out.mono ?_
      rintro e w3 ⟨rfl, hb3⟩
      have hs3 := hb3.size
      have HG3 := Lib.hid (HG2.out.same (fun i hi => hb3.block i (HG2.out.lt i hi).2))
      have HRV3 := Lib.hid (HRV.out.same (fun i hi => hb3.block i (HRV.out.lt i hi).2))
      have HR3 := Lib.hid (HR2.out.below (hb3.mono (by omega)))
      have HB3 := Lib.hid (HBL2.out.trans (hb3.mono (by omega)))
      clear hb3 HG2 HRV HR2 HBL2 HMA
      by_cases hc0 : mv < 0
      · have hd : decide (mv < 0) = true := by simpa using hc0
        have HST2 : Hid (bsf n L (k + 1) = (byL n (k : Int), (c : Int))) := by
          have := HST.out
          rw [← HMV.out, if_pos (.inl hc0)] at this
          exact this
        clear HST hc0
        go_wp2
        go_roundw
        case rel => exact ⟨k + 1, by omega, by go_num, by rw [HST2.out], by rw [HST2.out]; exact HRV3, HR3, HB3.out⟩
        case measure => simp [intOf]; omega
      have hd0 : decide (mv < 0) = false := by simpa using hc0
      by_cases hc : (c : Int) < mv
      · have hd : decide ((c : Int) < mv) = true := by simpa using hc
        have HST2 : Hid (bsf n L (k + 1) = (byL n (k : Int), (c : Int))) := by
          have := HST.out
          rw [← HMV.out, if_pos (.inr hc)] at this
          exact this
        clear HST hc hc0
        go_wp2
        go_roundw
        case rel => exact ⟨k + 1, by omega, by go_num, by rw [HST2.out], by rw [HST2.out]; exact HRV3, HR3, HB3.out⟩
        case measure => simp [intOf]; omega
      · have hd : decide ((c : Int) < mv) = false := by simpa using hc
        have HST2 : Hid (bsf n L (k + 1) = bsf n L k) := by
          have := HST.out
          rw [← HMV.out, if_neg (by omega)] at this
          exact this
        clear HST hc hc0
        go_wp2
        go_roundw
        case rel => exact ⟨k + 1, by omega, by go_num, by rw [HST2.out, ← HMV.out], by rw [HST2.out]; exact HG3, HR3, HB3.out⟩
        case measure => simp [intOf]; omega
    · obtain rfl : k = N := by omega
      go_wp2_with fail
      refine (HFACT.out _).mono ?_
      rintro e w0 ⟨rfl, rfl⟩
      go_wp2
      go_ret3
      exact ⟨_, rfl, by rw [HB.out]; exact hgs.out, by rw [HB.out]; exact HBL.out⟩
end Go.Proofs.Ytamnacgclhaggaa
