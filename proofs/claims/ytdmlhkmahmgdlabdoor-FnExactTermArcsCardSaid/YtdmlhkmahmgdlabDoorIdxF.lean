/- slices.IndexFunc and slices.DeleteFunc over rows of threes and of rings, for whatever closure over one variable. -/

import Derived.Test.YtdmlhkmahmgdlabDoorEvery
import Derived.Test.YtdmlhkmahmgdlabDoorBlk
namespace Go.Proofs.YtdmlhkmahmgdlabDoor
open Go.ChangeShapes Go.WideShapes Go.ChangeAt Go.RowKit

def idxR (p : List Int → Bool) (M : List (List Int)) : Int := if M.findIdx p < M.length then (M.findIdx p : Int) else -1
theorem idxR_at {p : List Int → Bool} {M : List (List Int)} {k : Nat} (hk : k < M.length) (h : ∀ j, j < k → p (rowK M j) = false) (hp : p (rowK M k) = true) : idxR p M = k ∧ M.findIdx p = k := by
  have e : M.findIdx p = k := by
    rw [List.findIdx_eq hk]
    refine ⟨by simpa [rowK, List.getD, hk] using hp, fun j hj => ?_⟩
    have := h j hj
    simpa [rowK, List.getD, show j < M.length by omega] using this
  exact ⟨by rw [idxR, e, if_pos hk], e⟩
theorem idxR_none {p : List Int → Bool} {M : List (List Int)} (h : ∀ j, j < M.length → p (rowK M j) = false) : idxR p M = -1 := by
  rw [idxR, if_neg]
  rw [List.findIdx_lt_length]
  rintro ⟨l, hl, hp⟩
  obtain ⟨j, hj, rfl⟩ := List.getElem_of_mem hl
  have := h j hj
  simp [rowK, List.getD, hj] at this
  rw [this] at hp; cases hp

/-- What stands in the row when the first j are looked at: those kept, then the rest as it was. -/
def keptTo (p : List Int → Bool) (M : List (List Int)) (j : Nat) : List (List Int) := (M.take j).filter fun l => !p l
theorem keptTo_len (p : List Int → Bool) (M : List (List Int)) (j : Nat) : (keptTo p M j).length ≤ j := by
  have := List.length_filter_le (fun l => !p l) (M.take j)
  simp at this; unfold keptTo; omega
theorem keptTo_yes {p : List Int → Bool} {M : List (List Int)} {j : Nat} (hj : j < M.length) (h : p (rowK M j) = false) : keptTo p M (j + 1) = keptTo p M j ++ [rowK M j] := by
  have e : rowK M j = M[j] := by simp [rowK, List.getD, hj]
  rw [e] at h
  unfold keptTo
  rw [List.take_succ_eq_append_getElem hj, List.filter_append, e]
  congr 1
  simp [h]
theorem keptTo_no {p : List Int → Bool} {M : List (List Int)} {j : Nat} (hj : j < M.length) (h : p (rowK M j) = true) : keptTo p M (j + 1) = keptTo p M j := by
  have e : rowK M j = M[j] := by simp [rowK, List.getD, hj]
  rw [e] at h
  unfold keptTo
  rw [List.take_succ_eq_append_getElem hj, List.filter_append]
  simp [h]
theorem keptTo_full (p : List Int → Bool) (M : List (List Int)) : keptTo p M M.length = M.filter fun l => !p l := by simp [keptTo]
/-- The row: as long as ever, the kept ones ahead, the unseen ones where they were. -/
def RowAt (p : List Int → Bool) (M X : List (List Int)) (j : Nat) : Prop := X.length = M.length ∧ X.take (keptTo p M j).length = keptTo p M j ∧ X.drop j = M.drop j
theorem rowAt_get {p : List Int → Bool} {M X : List (List Int)} {j : Nat} (h : RowAt p M X j) : rowK X j = rowK M j := by
  have := congrArg (fun l => l[0]?) h.2.2
  simp only [List.getElem?_drop, Nat.add_zero] at this
  simp [rowK, List.getD, this]
theorem rowAt_no {p : List Int → Bool} {M X : List (List Int)} {j : Nat} (h : RowAt p M X j) (hj : j < M.length) (hp : p (rowK M j) = true) : RowAt p M X (j + 1) := by
  refine ⟨h.1, by rw [keptTo_no hj hp]; exact h.2.1, ?_⟩
  rw [← List.drop_drop, ← List.drop_drop, h.2.2]
theorem rowAt_yes {p : List Int → Bool} {M X : List (List Int)} {j : Nat} (h : RowAt p M X j) (hj : j < M.length) (hp : p (rowK M j) = false) : RowAt p M (X.set (keptTo p M j).length (rowK M j)) (j + 1) := by
  have hl := keptTo_len p M j
  have hX := h.1
  refine ⟨by rw [List.length_set]; exact h.1, ?_, ?_⟩
  · rw [keptTo_yes hj hp, List.length_append, List.length_singleton, List.take_succ_eq_append_getElem (by rw [List.length_set]; omega), List.take_set_of_le (Nat.le_refl _), h.2.1]
    simp
  · rw [List.drop_set_of_lt (by omega), ← List.drop_drop, ← List.drop_drop, h.2.2]
theorem rowAt_start (p : List Int → Bool) (M : List (List Int)) {k : Nat} (hk : k < M.length) (h : ∀ j, j < k → p (rowK M j) = false) (hp : p (rowK M k) = true) : keptTo p M (k + 1) = M.take k ∧ RowAt p M M (k + 1) := by
  have e : ∀ q, q ≤ k → keptTo p M q = M.take q := by
    intro q
    induction q with
    | zero => intro _; simp [keptTo]
    | succ q ih =>
      intro hq
      rw [keptTo_yes (by omega) (h q (by omega)), ih (by omega), List.take_succ_eq_append_getElem (by omega)]
      simp [rowK, List.getD, show q < M.length by omega]
  have e1 : keptTo p M (k + 1) = M.take k := by rw [keptTo_no hk hp, e k (Nat.le_refl _)]
  refine ⟨e1, rfl, ?_, rfl⟩
  rw [e1, List.length_take]
  congr 1; omega
theorem keep_all {p : List Int → Bool} {M : List (List Int)} (h : ∀ j, j < M.length → p (rowK M j) = false) : M.filter (fun l => !p l) = M := by
  rw [List.filter_eq_self]
  intro l hl
  obtain ⟨j, hj, rfl⟩ := List.getElem_of_mem hl
  have := h j hj
  simp [rowK, List.getD, hj] at this
  simp [this]

end Go.Proofs.YtdmlhkmahmgdlabDoor
