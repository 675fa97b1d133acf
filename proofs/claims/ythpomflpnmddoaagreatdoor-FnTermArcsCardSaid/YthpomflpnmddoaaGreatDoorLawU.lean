/- A sign in front of a ring's term: the ring gone round the other way. -/
import Derived.Test.YthpomflpnmddoaaGreatDoorLawT
import Derived.Test.YthpomflpnmddoaaGreatDoorBackT
import Derived.Test.YthpomflpnmddoaaGreatDoorSwM
namespace Go.Proofs.YthpomflpnmddoaaGreatDoor
open Go.ChangeShapes Go.WideShapes Go.ChangeAt Go.RowKit

theorem idx_backU {l : List Int} (hn : l.Nodup) {i : Nat} (hi : i < l.length) : l.idxOf (l.getD i 0) = i := by
  have e : l.getD i 0 = l[i] := by simp [List.getD, hi]
  rw [e]
  exact hn.idxOf_getElem i hi
theorem getD_revU (l : List Int) (k : Nat) (hk : k < l.length) : l.reverse.getD k 0 = l.getD (l.length - 1 - k) 0 := by
  simp only [List.getD]
  rw [List.getElem?_reverse hk]
theorem idx_revU {l : List Int} (hn : l.Nodup) (h0 : (0 : Int) ∈ l) : l.reverse.idxOf 0 = l.length - 1 - l.idxOf 0 := by
  have hi := List.idxOf_lt_length_of_mem h0
  have hr : l.reverse.Nodup := by
    rw [List.Nodup, List.pairwise_reverse]
    exact hn.imp (fun h e => h e.symm)
  have e : l.reverse.getD (l.length - 1 - l.idxOf 0) 0 = 0 := by
    rw [getD_revU l _ (by omega), show l.length - 1 - (l.length - 1 - l.idxOf 0) = l.idxOf 0 by omega]
    exact at_idx l 0 h0
  have h := idx_backU hr (i := l.length - 1 - l.idxOf 0) (by simp; omega)
  rw [e] at h
  exact h
theorem back_rev {l : List Int} (hn : l.Nodup) (h0 : (0 : Int) ∈ l) : backL (cutL l.reverse 0) = cutL l 0 := by
  have hi := List.idxOf_lt_length_of_mem h0
  have hir := idx_revU hn h0
  apply ext_getD
  · simp
  · intro k hk
    have hk : k < l.length := by simpa using hk
    rw [backL_get _ k (by simpa using hk), cutL_get l 0 k hk]
    simp only [cutL_length, List.length_reverse]
    have hm : (l.length - k) % l.length < l.length := Nat.mod_lt _ (by omega)
    rw [cutL_get l.reverse 0 _ (by simpa using hm), hir, List.length_reverse]
    have hm2 : (l.length - 1 - l.idxOf 0 + (l.length - k) % l.length) % l.length < l.length := Nat.mod_lt _ (by omega)
    rw [getD_revU l _ hm2]
    congr 1
    generalize l.idxOf 0 = i at *
    generalize l.length = n at *
    by_cases hk0 : k = 0
    · subst hk0
      rw [Nat.sub_zero, Nat.mod_self, Nat.add_zero, Nat.mod_eq_of_lt (by omega), Nat.add_zero, Nat.mod_eq_of_lt hi]
      omega
    · rw [Nat.mod_eq_of_lt (show n - k < n by omega)]
      by_cases hs : i + k < n
      · rw [Nat.mod_eq_of_lt hs, Nat.mod_eq_sub_mod (by omega), Nat.mod_eq_of_lt (by omega)]
        omega
      · rw [Nat.mod_eq_sub_mod (show n ≤ i + k by omega), Nat.mod_eq_of_lt (show i + k - n < n by omega), Nat.mod_eq_of_lt (by omega)]
        omega
theorem tring_ring {l : List UInt8} (h : tringB l = true) : Ring (tringR l) := by
  unfold tringB tringR at *
  rcases hr : ringT l with _ | t
  · rw [hr] at h; cases h
  · exact cutL_ring (ringT_ok hr).2
theorem tring_sign {l : List UInt8} (h : tringB l = true) (h59 : l.length ≤ 59) : tringB (45 :: l) = true ∧ Ring (tringR (45 :: l)) ∧ backR (tringR (45 :: l)) = tringR l := by
  unfold tringB at h
  rcases hr : ringT l with _ | t
  · rw [hr] at h; cases h
  · have hs := ring_sign hr h59
    have hT := (ringT_ok hr).2
    have hb : tringB (45 :: l) = true := by rw [tringB, hs]; rfl
    have hg := tring_ring hb
    refine ⟨hb, hg, ?_⟩
    rw [backR, if_pos hg]
    unfold tringR
    rw [hs, hr]
    show backL (cutL (ptsU t.row.reverse) 0) = cutL (ptsU t.row) 0
    rw [ptsU_rev]
    exact back_rev hT.2.2.2 hT.zero
theorem sign_list (s : ByteArray) : (⟨#[45]⟩ ++ s : ByteArray).data.toList = 45 :: s.data.toList := by simp
theorem sign_size (s : ByteArray) : (⟨#[45]⟩ ++ s : ByteArray).size = 1 + s.size := by rw [ByteArray.size_append]; rfl
end Go.Proofs.YthpomflpnmddoaaGreatDoor
