/- The first ring with most threes of a telling: the model's look, the program's. -/
import Derived.Test.YtamnacgclhaggaaCC
namespace Go.Proofs.Ytamnacgclhaggaa
open Go.ChangeShapes Go.WideShapes Go.ChangeAt Go.RowKit

/-- The best of the first k rings, and how many it has. -/
def bst (n : Nat) (L : List (List Int)) : Nat → List Int × Int
  | 0 => ([], -1)
  | k + 1 => if (bst n L k).2 < (cntL (byL n (k : Int)) L : Int) then (byL n (k : Int), (cntL (byL n (k : Int)) L : Int)) else bst n L k
theorem bst_is (n : Nat) (L : List (List Int)) : ∀ k, 0 < k → ∃ j : Nat, j < k ∧ (bst n L k).1 = byL n (j : Int) ∧ (bst n L k).2 = (cntL (byL n (j : Int)) L : Int)
  | 0, h => absurd h (by omega)
  | k + 1, _ => by
    by_cases hc : (bst n L k).2 < (cntL (byL n (k : Int)) L : Int)
    · exact ⟨k, by omega, by rw [bst, if_pos hc], by rw [bst, if_pos hc]⟩
    · have hk : 0 < k := by
        rcases Nat.eq_zero_or_pos k with e | e
        · subst e; exact absurd (show (-1 : Int) < _ by omega) hc
        · exact e
      obtain ⟨j, hj, h1, h2⟩ := bst_is n L k hk
      exact ⟨j, by omega, by rw [bst, if_neg hc]; exact h1, by rw [bst, if_neg hc]; exact h2⟩
theorem bst_bd (n : Nat) (L : List (List Int)) (k : Nat) : -1 ≤ (bst n L k).2 ∧ (bst n L k).2 ≤ L.length := by
  rcases Nat.eq_zero_or_pos k with e | e
  · subst e; exact ⟨by simp [bst], by simp only [bst]; omega⟩
  · obtain ⟨j, _, _, h2⟩ := bst_is n L k e
    have := cntL_le (byL n (j : Int)) L
    rw [h2]; omega
def mostL (n : Nat) (L : List (List Int)) : List Int := (bst n L (facM n)).1
def mostV (n : Nat) (L : List (List Int)) : Int := (bst n L (facM n)).2
theorem most_is (n : Nat) (L : List (List Int)) (h3 : 3 ≤ n) (h6 : n ≤ 6) : IsR n (mostL n L) ∧ mostV n L = (cntL (mostL n L) L : Int) := by
  obtain ⟨j, hj, h1, h2⟩ := bst_is n L (facM n) (by have := (facM_eq n h3 h6).2.2.1; omega)
  unfold mostL mostV
  rw [h1, h2]
  exact ⟨byL_is n j h3 h6 hj, rfl⟩

set_option maxRecDepth 10000 in
set_option maxHeartbeats 2000000 in
theorem l2Most_any (A' : Option Addr) (m d H' : Nat) (n : Nat) (L : List (List Int)) (w : World) (h' : RdS w H' A' m L) (hH : H' ≤ w.heap.size) (h3 : 3 ≤ n) (h6 : n ≤ 6) (hm : m ≤ 1000) (hT : ∀ t ∈ L, Thr (n : Int) t) :
    Calls Try.prog 56 #[.int .i64 (n : Int), .slice A' m d] w fun e w' => ∃ v, e = .returned (.tuple #[.int .i64 (mostV n L), v]) ∧ OwnG w' w.heap.size v (mostL n L) ∧ Below w.heap.size w w' := by
  obtain ⟨hf1, hf2, hf3, hf4⟩ := facM_eq n h3 h6
  have HL := Lib.hid h'.len
  have HTT := Lib.hid hT
  have hg0 : Hid (OwnG (w.alloc (.cells #[] 3)) w.heap.size (.slice (some ⟨w.heap.size, 0, none⟩) 0 0) []) := (own_empty w _ (Nat.le_refl _)).gen
  have hb0 : Below w.heap.size w (w.alloc (.cells #[] 3)) := (Below.refl _ _).alloc (Nat.le_refl _) _
  have hr0 := Lib.hid (h'.below (hb0.mono hH))
  have HFM := Lib.hid hf1
  obtain ⟨N, hN⟩ : ∃ N, N = facM n := ⟨_, rfl⟩
  rw [← hN] at HFM hf2
  have HN := Lib.hid hN
  have hfk : ∀ k : Nat, k < N → (k : Int) < facN (n - 1) := fun k hk => by rw [← HFM.out]; omega
  have HFACT := Lib.hid (fun W => facS_nat (n - 1) ((n : Int) - 1) W (by omega) (by omega))
  rw [← HFM.out] at HFACT
  have HBY := Lib.hid (fun k (hk : k < N) W => byS_any n (k : Int) W h3 (by omega) (by omega) (hfk k hk))
  have HIS := Lib.hid (fun k (hk : k < N) => byL_is n k h3 h6 (by rw [← hN]; exact hk))
  clear hT h' hf1 hf3 hf4 hN hfk
  go_enter Try.func56, Try.ntmps56
  go_wp2
  generalize w.alloc (.cells #[] 3) = W0 at *
  generalize hB : w.heap.size = B at *
  have HB := Lib.hid hB
  clear hB
  go_loopw [6, 7, 8] (fun s v i wr => ∃ k : Nat, k ≤ N ∧ i = .int .i64 k ∧ s = .int .i64 (bst n L k).2 ∧ Hid (OwnG wr B v (bst n L k).1) ∧ Hid (RdS wr H' A' m L) ∧ Below B w wr) (fun _ _ i _ => N - (intOf i).toNat)
  case atStart => exact ⟨0, Nat.zero_le _, rfl, rfl, hg0, hr0, hb0⟩
  case round =>
    obtain ⟨k, hk, rfl, rfl, hgs, hrd, hbl⟩ := hrel
    clear hg0 hr0 hb0
    have HBL := Lib.hid hbl
    have hBw : B ≤ wr.heap.size := by rw [← HB.out]; exact hbl.size
    clear hbl
    by_cases hlt : k < N
    · have HS := Lib.hid (HBY.out k hlt)
      have hI := HIS.out k hlt
      have HI := Lib.hid hI
      have hbd := bst_bd n L k
      rw [HL.out] at hbd
      obtain ⟨hbd1, hbd2⟩ := hbd
      have HST : Hid (bst n L (k + 1) = if (bst n L k).2 < (cntL (byL n (k : Int)) L : Int) then (byL n (k : Int), (cntL (byL n (k : Int)) L : Int)) else bst n L k) := rfl
      obtain ⟨mv, hmv⟩ : ∃ mv, mv = (bst n L k).2 := ⟨_, rfl⟩
      rw [← hmv] at hbd1 hbd2 ⊢
      have HMV := Lib.hid hmv
      clear hmv
      go_wp2_with fail
      refine (HFACT.out _).mono ?_
      rintro e w' ⟨rfl, rfl⟩
      go_wp2_with fail
      refine (HS.out _).mono ?_
      rintro e w2 ⟨vr, rfl, ho, hb2⟩
      obtain ⟨Ar, cr, rfl⟩ := ho.slice
      have hl : (byL n k).length = n := hI.1
      have HG2 := Lib.hid (hgs.out.same (fun i hi => hb2.block i (hgs.out.lt i hi).2))
      have HR2 := Lib.hid (hrd.out.below (hb2.mono (by omega)))
      have HRV := Lib.hid (own_less ho hBw).gen
      have HRD := Lib.hid ho.rd.2
      have HBL2 := Lib.hid (HBL.out.trans (hb2.mono hBw))
      have hs2 := hb2.size
      have hcl := cntL_le (byL n (k : Int)) L
      rw [HL.out] at hcl
      rw [hl] at HRV HRD ⊢
      have HMA := Lib.hid (fun p => many_any Ar n cr _ (byL n k) A' m d H' L (w2.drewN p) (HRD.out.drewN p) (HR2.out.drewN p) (by omega) (by omega) hm (HI.out.mem3 HTT.out))
      obtain ⟨q, hq⟩ : ∃ q, q = cntL (byL n (k : Int)) L := ⟨_, rfl⟩
      rw [← hq] at HMA hcl HST
      clear ho hb2 hI hgs hrd hl hq
      go_wp2_with fail
      refine (HMA.out 0).mono ?_
      rintro e w3 ⟨rfl, p, rfl⟩
      by_cases hc : mv < (q : Int)
      · have hd : decide (mv < (q : Int)) = true := by simpa using hc
        have HST2 : Hid (bst n L (k + 1) = (byL n (k : Int), (q : Int))) := by
          have := HST.out
          rw [← HMV.out, if_pos hc] at this
          exact this
        clear HST hc
        go_wp2_with fail
        have e0 : (w2.drewN 0).drewN p = w2.drewN p := by rw [World.drewN_drewN]; simp
        have HMA1 := HMA.out p
        rw [← e0] at HMA1
        refine HMA1.mono ?_
        rintro e w4 ⟨rfl, p', rfl⟩
        go_wp2
        go_roundw
        case rel => exact ⟨k + 1, by omega, by go_num, by rw [HST2.out], by rw [HST2.out]; exact HRV.out.same fun _ _ => rfl, Lib.hid (HR2.out.keep fun _ _ _ => rfl), by first | exact below_drewN HBL2.out _ | exact below_drewN (below_drewN HBL2.out 0) _⟩
        case measure => simp [intOf]; omega
      · have hd : decide (mv < (q : Int)) = false := by simpa using hc
        have HST2 : Hid (bst n L (k + 1) = bst n L k) := by
          have := HST.out
          rw [← HMV.out, if_neg hc] at this
          exact this
        clear HST hc
        go_wp2
        go_roundw
        case rel => exact ⟨k + 1, by omega, by go_num, by rw [HST2.out, ← HMV.out], by rw [HST2.out]; exact HG2.out.same fun _ _ => rfl, Lib.hid (HR2.out.keep fun _ _ _ => rfl), by first | exact below_drewN HBL2.out _ | exact below_drewN (below_drewN HBL2.out 0) _⟩
        case measure => simp [intOf]; omega
    · obtain rfl : k = N := by omega
      go_wp2_with fail
      refine (HFACT.out _).mono ?_
      rintro e w' ⟨rfl, rfl⟩
      rw [HN.out] at hgs ⊢
      go_wp2
      go_ret2
      exact ⟨_, rfl, by rw [HB.out]; exact hgs.out, by rw [HB.out]; exact HBL.out⟩
end Go.Proofs.Ytamnacgclhaggaa
