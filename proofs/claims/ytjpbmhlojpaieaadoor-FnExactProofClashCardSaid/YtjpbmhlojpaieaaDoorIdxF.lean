/- slices.IndexFunc and slices.DeleteFunc over rows of threes and of rings, for whatever closure over one variable. -/

import Derived.Test.YtjpbmhlojpaieaaDoorEvery
import Derived.Test.YtjpbmhlojpaieaaDoorBlk
namespace Go.Proofs.YtjpbmhlojpaieaaDoor
open Go.ChangeShapes Go.WideShapes Go.ChangeAt Go.RowKit

def idxR (p : List Int → Bool) (M : List (List Int)) : Int := if M.findIdx p < M.length then (M.findIdx p : Int) else -1
theorem idxR_at {p : List Int → Bool} {M : List (List Int)} {k : Nat} (hk : k < M.length) (h : ∀ j, j < k → p (rowK M j) = false) (hp : p (rowK M k) = true) : idxR p M = k ∧ M.findIdx p = k := by
  have e : M.findIdx p = k := by
    rw [List.findIdx_eq hk]
    refine ⟨by simpa [rowK, List.getD, hk] using hp, fun j hj => ?_⟩
    have := h j hj
    simpa [rowK, List.getD, show j < M.length by omega] using this
  exact ⟨by rw [idxR, e, if_pos hk], e⟩
theorem idxR_none {p : List Int → Bool} {M : List (List Int)} (h : ∀ j, j < M.length → p (rowK M j) = false) : idxR p M = -1 := by
  rw [idxR, if_neg]
  rw [List.findIdx_lt_length]
  rintro ⟨l, hl, hp⟩
  obtain ⟨j, hj, rfl⟩ := List.getElem_of_mem hl
  have := h j hj
  simp [rowK, List.getD, hj] at this
  rw [this] at hp; cases hp

/-- What stands in the row when the first j are looked at: those kept, then the rest as it was. -/
def keptTo (p : List Int → Bool) (M : List (List Int)) (j : Nat) : List (List Int) := (M.take j).filter fun l => !p l
theorem keptTo_len (p : List Int → Bool) (M : List (List Int)) (j : Nat) : (keptTo p M j).length ≤ j := by
  have := List.length_filter_le (fun l => !p l) (M.take j)
  simp at this; unfold keptTo; omega
theorem keptTo_yes {p : List Int → Bool} {M : List (List Int)} {j : Nat} (hj : j < M.length) (h : p (rowK M j) = false) : keptTo p M (j + 1) = keptTo p M j ++ [rowK M j] := by
  have e : rowK M j = M[j] := by simp [rowK, List.getD, hj]
  rw [e] at h
  unfold keptTo
  rw [List.take_succ_eq_append_getElem hj, List.filter_append, e]
  congr 1
  simp [h]
theorem keptTo_no {p : List Int → Bool} {M : List (List Int)} {j : Nat} (hj : j < M.length) (h : p (rowK M j) = true) : keptTo p M (j + 1) = keptTo p M j := by
  have e : rowK M j = M[j] := by simp [rowK, List.getD, hj]
  rw [e] at h
  unfold keptTo
  rw [List.take_succ_eq_append_getElem hj, List.filter_append]
  simp [h]
theorem keptTo_full (p : List Int → Bool) (M : List (List Int)) : keptTo p M M.length = M.filter fun l => !p l := by simp [keptTo]
/-- The row: as long as ever, the kept ones ahead, the unseen ones where they were. -/
def RowAt (p : List Int → Bool) (M X : List (List Int)) (j : Nat) : Prop := X.length = M.length ∧ X.take (keptTo p M j).length = keptTo p M j ∧ X.drop j = M.drop j
theorem rowAt_get {p : List Int → Bool} {M X : List (List Int)} {j : Nat} (h : RowAt p M X j) : rowK X j = rowK M j := by
  have := congrArg (fun l => l[0]?) h.2.2
  simp only [List.getElem?_drop, Nat.add_zero] at this
  simp [rowK, List.getD, this]
theorem rowAt_no {p : List Int → Bool} {M X : List (List Int)} {j : Nat} (h : RowAt p M X j) (hj : j < M.length) (hp : p (rowK M j) = true) : RowAt p M X (j + 1) := by
  refine ⟨h.1, by rw [keptTo_no hj hp]; exact h.2.1, ?_⟩
  rw [← List.drop_drop, ← List.drop_drop, h.2.2]
theorem rowAt_yes {p : List Int → Bool} {M X : List (List Int)} {j : Nat} (h : RowAt p M X j) (hj : j < M.length) (hp : p (rowK M j) = false) : RowAt p M (X.set (keptTo p M j).length (rowK M j)) (j + 1) := by
  have hl := keptTo_len p M j
  have hX := h.1
  refine ⟨by rw [List.length_set]; exact h.1, ?_, ?_⟩
  · rw [keptTo_yes hj hp, List.length_append, List.length_singleton, List.take_succ_eq_append_getElem (by rw [List.length_set]; omega), List.take_set_of_le (Nat.le_refl _), h.2.1]
    simp
  · rw [List.drop_set_of_lt (by omega), ← List.drop_drop, ← List.drop_drop, h.2.2]
theorem rowAt_start (p : List Int → Bool) (M : List (List Int)) {k : Nat} (hk : k < M.length) (h : ∀ j, j < k → p (rowK M j) = false) (hp : p (rowK M k) = true) : keptTo p M (k + 1) = M.take k ∧ RowAt p M M (k + 1) := by
  have e : ∀ q, q ≤ k → keptTo p M q = M.take q := by
    intro q
    induction q with
    | zero => intro _; simp [keptTo]
    | succ q ih =>
      intro hq
      rw [keptTo_yes (by omega) (h q (by omega)), ih (by omega), List.take_succ_eq_append_getElem (by omega)]
      simp [rowK, List.getD, show q < M.length by omega]
  have e1 : keptTo p M (k + 1) = M.take k := by rw [keptTo_no hk hp, e k (Nat.le_refl _)]
  refine ⟨e1, rfl, ?_, rfl⟩
  rw [e1, List.length_take]
  congr 1; omega
theorem keep_all {p : List Int → Bool} {M : List (List Int)} (h : ∀ j, j < M.length → p (rowK M j) = false) : M.filter (fun l => !p l) = M := by
  rw [List.filter_eq_self]
  intro l hl
  obtain ⟨j, hj, rfl⟩ := List.getElem_of_mem hl
  have := h j hj
  simp [rowK, List.getD, hj] at this
  simp [this]

set_option maxRecDepth 10000 in
set_option maxHeartbeats 1000000 in
theorem indexF_three (fid : Nat) (hE : ∀ args w, (callFunc fid args).run Tryd.prog w = .ok (.enter fid args) w) (cap : Value) (p : List Int → Bool) (D E : Nat) (v : Value) (M : List (List Int)) (w : World) (h : RowN w D 69 3 v M) (hD : E ≤ w.heap.size) (hM : M.length ≤ 1000)
    (hf : ∀ W, Below E w W → ∀ l ∈ M, Calls Tryd.prog fid #[.agg (ints l).toArray, cap] W fun e w' => e = .returned (.bool (p l)) ∧ Below W.heap.size W w') :
    Calls Tryd.prog 99 #[v, .func (.func fid) #[] #[cap]] w fun e w' => e = .returned (.int .i64 (idxR p M)) ∧ Below w.heap.size w w' := by
  obtain ⟨A, c, rfl⟩ := h.slice
  obtain ⟨n, hn⟩ : ∃ n, n = M.length := ⟨_, rfl⟩
  have HN := Lib.hid hn
  have hr0 := Lib.hid h
  have HLT := Lib.hid (fun i hi => h.lt i hi)
  rw [← hn] at hM hr0 HLT ⊢
  have HF := Lib.hid hf
  clear h hn hf
  go_enter Tryd.func99, Tryd.ntmps99
  go_wp2
  go_loopw [8] (fun i wr => ∃ k : Nat, k ≤ n ∧ i = .int .i64 k ∧ Hid (∀ j, j < k → p (rowK M j) = false) ∧ Hid (RowN wr D 69 3 (.slice A n c) M) ∧ Below w.heap.size w wr) (fun i _ => n - (intOf i).toNat)
  case atStart => exact ⟨0, Nat.zero_le _, rfl, fun j hj => absurd hj (by omega), hr0, Below.refl _ _⟩
  case round =>
    obtain ⟨k, hk, rfl, hpre, hrd, hbl⟩ := hrel
    clear hr0
    by_cases hlt : k < n
    · have hkl : k < M.length := by rw [← HN.out]; exact hlt
      obtain ⟨g, c', e0, hBg, hgs, _, _, _, _⟩ := hrd.out.elem hkl
      rw [← HN.out] at e0
      injection e0 with e1 _ e3
      subst e3
      subst e1
      have HKL := Lib.hid hkl
      have HC := Lib.hid (HF.out wr (hbl.mono hD) _ (rowK_mem hkl))
      have hlt1 := HLT.out g rfl
      cases hp : p (rowK M k) with
      | false =>
        have HP : Hid (∀ j, j < k + 1 → p (rowK M j) = false) := fun j hj => by
          rcases Nat.lt_succ_iff_lt_or_eq.1 hj with hj | rfl
          · exact hpre.out j hj
          · exact hp
        rw [hp] at HC
        clear hp hkl
        go_wp2_with (first
          | (refine load_elem rfl _ 69 rfl _ rfl Tryd.underlying69 g n c D k 3 M hrd HKL.out three_size rfl ?_)
          | (refine HC.out.mono ?_; rintro e w5 ⟨rfl, hb5⟩))
        go_roundw
        case rel => exact ⟨k + 1, by omega, by go_num, HP, Lib.hid (hrd.out.below hb5 (fun i hi => by have := HLT.out i hi; have := hbl.size; omega)), hbl.trans (hb5.mono hbl.size)⟩
        case measure => simp [intOf]; omega
      | true =>
        have HI := Lib.hid (idxR_at hkl hpre.out hp).1
        rw [hp] at HC
        clear hp hkl
        go_wp2_with (first
          | (refine load_elem rfl _ 69 rfl _ rfl Tryd.underlying69 g n c D k 3 M hrd HKL.out three_size rfl ?_)
          | (refine HC.out.mono ?_; rintro e w5 ⟨rfl, hb5⟩))
        go_ret
        exact ⟨by rw [HI.out]; rfl, hbl.trans (hb5.mono hbl.size)⟩
    · obtain rfl : k = n := by omega
      have HI := Lib.hid (idxR_none (p := p) (M := M) (by rw [← HN.out]; exact hpre.out))
      go_wp2
      go_ret
      exact ⟨by rw [HI.out]; rfl, hbl⟩

end Go.Proofs.YtjpbmhlojpaieaaDoor
