/- The maths of the laws on windings: how many rings have each winding; windings by any ring; a new point's fall. -/
import Derived.Test.YtbfdbnminjhocaaWindN
import Derived.Test.YtbfdbnminjhocaaLaw4
import Derived.Test.YtbfdbnminjhocaaPutM
namespace Go.Proofs.Ytbfdbnminjhocaa
open Go.ChangeShapes Go.WideShapes Go.ChangeAt Go.RowKit

theorem up_ring {n : Nat} (h3 : 3 ≤ n) (h7 : n ≤ 7) : Ring (upFrom 0 n) := ⟨upTell h3 h7, upFrom_get 0 n 0 (by omega)⟩
theorem by_zero {n : Nat} (h3 : 3 ≤ n) (h7 : n ≤ 7) : byB (n : Int) 0 = true ∧ byR (n : Int) 0 = upFrom 0 n := by
  have hf := (facN_bd (n - 1)).1
  have hb : byB (n : Int) 0 = true := by rw [byB, decide_eq_true_eq, Int.toNat_natCast]; omega
  refine ⟨hb, ?_⟩
  rw [byR, if_pos hb, Int.toNat_natCast, byL_zero n h7]
theorem two_up {l : List Int} (h : Ring l) : TwoR l (upFrom 0 l.length) := ⟨h, up_ring h.1.1 h.1.2.1, by simp⟩
theorem wind_up {l : List Int} (h : Ring l) : twoB l (upFrom 0 l.length) = true ∧ woR l (upFrom 0 l.length) = fallsL l := by
  refine ⟨twoYes (two_up h), ?_⟩
  rw [woR, if_pos (two_up h), wind_falls (two_up h).w2]

/-- How many rings have each winding. -/
def cntL (n : Nat) : List Int := histL (fun j : Nat => fallsL (byL n (j : Int))) n (facM n)
theorem cnt3 : cntL 3 = [0, 1, 1] := by decide +kernel
theorem cnt4 : cntL 4 = [0, 1, 4, 1] := by decide +kernel
theorem cnt5 : cntL 5 = [0, 1, 11, 11, 1] := by decide +kernel
theorem cnt6 : cntL 6 = [0, 1, 26, 66, 26, 1] := by decide +kernel
theorem cnt7 : cntL 7 = [0, 1, 57, 302, 302, 57, 1] := by decide +kernel
theorem wcR_is {x : Int} (h : wcB x = true) : ∃ m : Nat, x = (m : Int) ∧ 3 ≤ m ∧ m ≤ 7 ∧ wcR x = cntL m ∧ wsR x = sumsN (m - 2) := by
  have hx : 3 ≤ x ∧ x ≤ 7 := by simpa [wcB] using h
  refine ⟨x.toNat, by omega, by omega, by omega, ?_, ?_⟩
  · rw [wcR, if_pos h]; rfl
  · rw [wsR, if_pos h]
theorem cnt_facts {m : Nat} (h3 : 3 ≤ m) (h7 : m ≤ 7) : sumsN (m - 2) = cntL m ∧ sumL (cntL m) = facN (m - 1) ∧ (∀ k, k < m → 0 ≤ (cntL m).getD k 0 ∧ (cntL m).getD k 0 ≤ 720) ∧ (∀ k, k < m → 1 ≤ k → (cntL m).getD k 0 = (cntL m).getD (m - k) 0) ∧ (cntL m).getD 0 0 = 0 ∧ (cntL m).getD 1 0 = 1 := by
  obtain rfl | rfl | rfl | rfl | rfl : m = 3 ∨ m = 4 ∨ m = 5 ∨ m = 6 ∨ m = 7 := by omega
  · rw [cnt3]; decide
  · rw [cnt4]; decide
  · rw [cnt5]; decide
  · rw [cnt6]; decide
  · rw [cnt7]; decide
theorem cntL_length (m : Nat) : (cntL m).length = m := histL_length _ _ _

theorem cntI_count (f : Nat → Int) (k : Int) : ∀ K, cntI f k K = (((List.range K).countP fun j => decide (f j = k) : Nat) : Int) := fun K => by
  induction K with
  | zero => rfl
  | succ K ih =>
    rw [cntI, ih, List.range_succ, List.countP_append]
    by_cases e : f K = k
    · simp [e]
    · simp [e]
theorem count_rings (n : Nat) (q : List Int → Bool) : (List.range (facM n)).countP (fun j : Nat => q (byL n (j : Int))) = (ringsL n).countP q := by
  unfold ringsL
  rw [List.countP_map]
  rfl
theorem call_back {l : List Int} (h : Ring l) : ∃ p, Tell p ∧ p.length = l.length ∧ cutL (callL l p) 0 = upFrom 0 l.length := by
  refine ⟨(List.range l.length).map fun x : Nat => ((l.idxOf (x : Int) : Nat) : Int), ?_, by simp, ?_⟩
  · refine nodup_of_mem _ (upFrom 0 l.length) (by simp) (upTell h.1.1 h.1.2.1) fun x hx => ?_
    obtain ⟨i, hi, rfl⟩ := List.mem_map.1 hx
    have hi' := List.mem_range.1 hi
    have hb := h.1.2.2.1 _ (getD_mem l i hi')
    refine List.mem_map.2 ⟨(l.getD i 0).toNat, List.mem_range.2 (by omega), ?_⟩
    rw [Int.toNat_of_nonneg hb.1, idxAt h.1.2.2.2 hi']
    omega
  · have e : callL l ((List.range l.length).map fun x : Nat => ((l.idxOf (x : Int) : Nat) : Int)) = upFrom 0 l.length := by
      refine ext_getD _ _ (by rw [callL_len]; simp) fun k hk => ?_
      rw [callL_len] at hk
      have hb := h.1.2.2.1 _ (getD_mem l k hk)
      rw [callL_get l _ k hk, upFrom_get 0 _ k hk]
      have hlt : (l.getD k 0).toNat < l.length := by omega
      have hi := idxAt h.1.2.2.2 hk
      have em : ∀ m, m < l.length → ((List.range l.length).map fun x : Nat => ((l.idxOf (x : Int) : Nat) : Int)).getD m 0 = ((l.idxOf (m : Int) : Nat) : Int) := fun m hm => by simp [List.getD, hm]
      rw [em _ hlt, Int.toNat_of_nonneg hb.1, hi]
      omega
    rw [e]
    exact cut_zero _ (idx_zero _ (by simp; have := h.1.1; omega) (upFrom_get 0 _ 0 (by have := h.1.1; omega)))
theorem most_count {l : List Int} {x : Int} (h : wmB l x = true) : wmR l x = (cntL l.length).getD x.toNat 0 := by
  obtain ⟨hr, h0, h1⟩ := wm_yes h
  have h3 := hr.1.1
  have h7 := hr.1.2.1
  rw [wmR, if_pos h, cntI_count]
  have e1 := count_rings l.length (fun r => decide (windL r l = x))
  rw [e1]
  obtain ⟨p, hp, hpl, hup⟩ := call_back hr
  have hperm := rings_named h3 h7 hp hpl
  have e2 : (ringsL l.length).countP (fun r => decide (windL r l = x)) = (ringsL l.length).countP (fun r => decide (fallsL r = x)) := by
    rw [← hperm.countP_eq (fun r => decide (fallsL r = x)), List.countP_map]
    refine List.countP_congr fun r hr' => ?_
    obtain ⟨rr, lr⟩ := rings_ring h3 h7 hr'
    have hw := wind_named rr.1 hr.1 hp (by omega) hpl
    have hrr := cutL_ring (callL_tell rr.1 hp (by omega))
    have hl2 : (cutL (callL r p) 0).length = l.length := by rw [cutL_len, callL_len, lr]
    have hf := wind_falls (two_up hrr).w2
    rw [hl2, ← hup, hw] at hf
    simp only [Function.comp_apply, hf]
  rw [e2, cntL, histL_get _ _ _ _ (by omega), Int.toNat_of_nonneg h0]
  have e3 := count_rings l.length (fun r => decide (fallsL r = x))
  rw [e3]
theorem wm_no {l : List Int} {x : Int} (h : ¬ wmB l x = true) : wmB l x = false := by simpa using h
theorem wc_no {x : Int} (h : ¬ wcB x = true) : wcB x = false := by simpa using h

theorem wb_yes {l p q : List Int} (h : TwoR l p ∧ TwoR l q) : wbB l p q = true := by rw [wbB, twoYes h.1, twoYes h.2]; rfl
theorem wb_no {l p q : List Int} (h : ¬ (TwoR l p ∧ TwoR l q)) : wbB l p q = false := by simpa [wbB, twoB] using h

/-- A place put between: the sum of what comes. -/
theorem sumN_insert (f g : Nat → Int) (i : Nat) (c d : Int) (h1 : ∀ k, k < i → g k = f k) (h2 : g i = c) (h3 : g (i + 1) = d) : ∀ N, i < N → (∀ k, i < k → k < N → g (k + 1) = f k) → sumN g (N + 1) = sumN f N - f i + c + d
  | 0, h, _ => absurd h (by omega)
  | N + 1, h, hh => by
    by_cases e : i = N
    · subst e
      have := sumN_congr i h1
      simp only [sumN] at this ⊢
      rw [this, h2, h3]
      omega
    · have ih := sumN_insert f g i c d h1 h2 h3 N (by omega) fun k a b => hh k a (by omega)
      have e2 := hh N (by omega) (by omega)
      simp only [sumN] at ih ⊢
      rw [ih, e2]
      omega
theorem put_falls {l : List Int} {x : Int} (h : Ring l) (hx : x ∈ l) (h6 : l.length < 7) :
    fallsL (putL l x) = fallsL l + 1 - (if l.getD ((l.idxOf x + 1) % l.length) 0 < x then 1 else 0) := by
  have hi := List.idxOf_lt_length_of_mem hx
  have hx0 := at_idx l x hx
  have hlen := putL_length l x hx
  have hb : ∀ k, k < l.length → l.getD k 0 < (l.length : Int) := fun k hk => (h.1.2.2.1 _ (getD_mem l k hk)).2
  unfold fallsL
  rw [hlen]
  have key := sumN_insert (fallsN l) (fallsN (putL l x)) (l.idxOf x) 0 1 ?_ ?_ ?_ l.length hi ?_
  · rw [key]
    unfold fallsN
    rw [hx0]
    omega
  · intro k hk
    unfold fallsN
    rw [hlen, Nat.mod_eq_of_lt (show k + 1 < l.length + 1 by omega), Nat.mod_eq_of_lt (show k + 1 < l.length by omega), putL_low l x k (by omega) (by omega), putL_low l x (k + 1) (by omega) (by omega)]
  · unfold fallsN
    rw [hlen, Nat.mod_eq_of_lt (show l.idxOf x + 1 < l.length + 1 by omega), putL_mid l x hx, putL_low l x _ hi (Nat.le_refl _)]
    rw [if_neg]
    have := hb _ hi
    omega
  · unfold fallsN
    rw [hlen, putL_mid l x hx, if_pos]
    by_cases e : l.idxOf x + 1 = l.length
    · rw [e, Nat.mod_self, putL_low l x 0 (by omega) (by omega)]
      exact hb 0 (by omega)
    · rw [Nat.mod_eq_of_lt (show l.idxOf x + 1 + 1 < l.length + 1 by omega), putL_high l x _ hx (by omega) (by omega)]
      exact hb _ (by omega)
  · intro k hik hk
    unfold fallsN
    rw [hlen, putL_high l x k hx hk hik]
    by_cases e : k + 1 = l.length
    · rw [e, Nat.mod_self, Nat.mod_self, putL_low l x 0 (by omega) (by omega)]
    · rw [Nat.mod_eq_of_lt (show k + 1 + 1 < l.length + 1 by omega), Nat.mod_eq_of_lt (show k + 1 < l.length by omega), putL_high l x (k + 1) hx (by omega) (by omega)]
end Go.Proofs.Ytbfdbnminjhocaa
