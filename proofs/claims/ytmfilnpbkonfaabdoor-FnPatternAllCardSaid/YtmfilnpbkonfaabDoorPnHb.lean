/- Patterns of rings gone the other way. Plain lemmas. -/
import Derived.Test.YtmfilnpbkonfaabDoorPnC
import Derived.Test.YtmfilnpbkonfaabDoorPR
namespace Go.Proofs.YtmfilnpbkonfaabDoor
open Go.ChangeShapes Go.WideShapes Go.ChangeAt Go.RowKit

theorem backL_cons (x : Int) (t : List Int) : backL (x :: t) = x :: t.reverse := by
  apply ext_getD
  · simp
  intro k hk
  rw [backL_length, List.length_cons] at hk
  rw [backL_get _ k (by simpa using hk), List.length_cons]
  cases k with
  | zero => rw [Nat.sub_zero, Nat.mod_self]; rfl
  | succ k =>
    rw [Nat.mod_eq_of_lt (by omega), show t.length + 1 - (k + 1) = (t.length - 1 - k) + 1 by omega]
    simp only [List.getD, List.getElem?_cons_succ]
    rw [List.getElem?_reverse (by omega)]
theorem back_perm (q : List Int) : List.Perm (backL q) q := by
  cases q with
  | nil => exact List.Perm.refl _
  | cons x t => rw [backL_cons]; exact (List.reverse_perm t).cons x
theorem mod_back (n i k : Nat) (h3 : 3 ≤ n) (h7 : n ≤ 7) (hi : i < n) (hk : k < n) : (n - ((n - i) % n + k) % n) % n = (i + (n - k) % n) % n := by
  have key : ∀ (n : Fin 8) (i k : Fin 7), 3 ≤ n.val → i.val < n.val → k.val < n.val → (n.val - ((n.val - i.val) % n.val + k.val) % n.val) % n.val = (i.val + (n.val - k.val) % n.val) % n.val := by decide +kernel
  exact key ⟨n, by omega⟩ ⟨i, by omega⟩ ⟨k, by omega⟩ h3 hi hk
theorem cut_back {l : List Int} (ht : Tell l) {x : Int} (hx : x ∈ l) : cutL (backL l) x = backL (cutL l x) := by
  have hi := List.idxOf_lt_length_of_mem hx
  have hb := (backL_nodup' ht).2 x hx
  apply ext_getD
  · rw [cutL_len, backL_length, backL_length, cutL_len]
  intro k hk
  rw [cutL_len, backL_length] at hk
  rw [cutL_get _ _ _ (by rw [backL_length]; exact hk), backL_length, hb, backL_get _ _ (Nat.mod_lt _ (by omega)), backL_get _ _ (by rw [cutL_len]; exact hk), cutL_len, cutL_get _ _ _ (Nat.mod_lt _ (by omega)), mod_back _ _ _ ht.1 ht.2.1 hi hk]
theorem pick_back (s : Nat) (x : Int) (t : List Int) (h : hasN s x = true) : pickN s (backL (x :: t)) = backL (pickN s (x :: t)) := by
  unfold pickN
  rw [backL_cons, List.filter_cons, if_pos h, List.filter_cons, if_pos h, backL_cons, List.filter_reverse]
theorem part_back8 {l : List Int} (ht : Tell l) {s : Nat} (h0 : 0 < s) (hs : s < 2 ^ l.length) : partL (backL l) s = backL (partL l s) := by
  have hm := low_mem ht h0 hs
  have hlb := (low_has s (fits s l.length ht.2.1 hs) (by omega)).1
  have hh : hasN s ((lowN s : Nat) : Int) = true := by unfold hasN; rw [Int.toNat_natCast]; exact hlb
  unfold partL
  rw [cut_back ht hm]
  have hc := cut_first hm
  cases e : cutL l ((lowN s : Nat) : Int) with
  | nil =>
    have h1 := congrArg List.length e
    rw [cutL_len, List.length_nil] at h1
    have := ht.1
    omega
  | cons x t =>
    rw [e] at hc
    have hx : x = ((lowN s : Nat) : Int) := by simpa [List.getD] using hc
    subst hx
    exact pick_back s _ t hh
theorem rng_back (q : List Int) : rngL (backL q) = backL (rngL q) := by
  have h : ∀ x, lesN (backL q) x = lesN q x := fun x => (back_perm q).countP_eq _
  unfold rngL
  simp only [h]
  cases q with
  | nil => rfl
  | cons x t => rw [backL_cons, List.map_cons, List.map_cons, backL_cons, List.map_reverse]
theorem pat_back {l : List Int} (ht : Tell l) {s : Nat} (h0 : 0 < s) (hs : s < 2 ^ l.length) : patL (backL l) s = backL (patL l s) := by
  unfold patL
  rw [part_back8 ht h0 hs, rng_back]
theorem at_back {l p : List Int} (ht : Tell l) (hp : 0 < p.length) {s : Nat} (hs : s < 2 ^ l.length) : atN (backL l) p s = atN l (backL p) s := by
  rcases Nat.eq_zero_or_pos s with rfl | h0
  · rw [at_zero _ _ hp, at_zero _ _ (by rw [backL_length]; exact hp)]
  · unfold atN
    rw [pat_back ht h0 hs, decide_eq_decide]
    exact ⟨fun h => by rw [← h, backL_back], fun h => by rw [h, backL_back]⟩
theorem mny_back {l p : List Int} (ht : Tell l) (hp : 0 < p.length) : mnyN (backL l) p = mnyN l (backL p) := by
  unfold mnyN cntP
  rw [backL_length]
  refine List.countP_congr fun s hs => ?_
  rw [at_back ht hp (List.mem_range.1 hs)]

end Go.Proofs.YtmfilnpbkonfaabDoor
