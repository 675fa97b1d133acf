/- Lists whose rows are all such: what a reader of each one computes. -/
import Derived.Test.YtjpbmhlojpaieaaDoorBlk
namespace Go.Proofs.YtjpbmhlojpaieaaDoor
open Go.ChangeShapes Go.WideShapes Go.ChangeAt Go.RowKit

def allB (q : List Int → Bool) (L : List (List Int)) : Bool := L.all q
def allL (q : List Int → Bool) (L : List (List Int)) : List (List Int) := if allB q L then L else []
theorem allB_iff {q : List Int → Bool} {L : List (List Int)} : allB q L = true ↔ ∀ l ∈ L, q l = true := by simp [allB]
theorem all_yes {q : List Int → Bool} {L : List (List Int)} (h : ∀ l ∈ L, q l = true) : allB q L = true ∧ allL q L = L := by
  have := allB_iff.2 h
  exact ⟨this, by rw [allL, if_pos this]⟩
theorem all_no {q : List Int → Bool} {L : List (List Int)} {k : Nat} (hk : k < L.length) (h : q (rowK L k) = false) : allB q L = false ∧ allL q L = [] := by
  have : allB q L = false := by
    rw [Bool.eq_false_iff]
    intro hh
    have := allB_iff.1 hh _ (rowK_mem hk)
    rw [h] at this
    cases this
  exact ⟨this, by rw [allL, if_neg (by simp [this])]⟩
def AllTo (q : List Int → Bool) (L : List (List Int)) (k : Nat) : Prop := ∀ j, j < k → q (rowK L j) = true
theorem allTo_step {q : List Int → Bool} {L : List (List Int)} {k : Nat} (h : AllTo q L k) (hk : q (rowK L k) = true) : AllTo q L (k + 1) := fun j hj => by
  rcases Nat.lt_succ_iff_lt_or_eq.1 hj with hj | rfl
  · exact h j hj
  · exact hk
theorem allTo_all {q : List Int → Bool} {L : List (List Int)} (h : AllTo q L L.length) : ∀ l ∈ L, q l = true := fun l hl => by
  obtain ⟨j, hj, rfl⟩ := List.getElem_of_mem hl
  have := h j hj
  simpa [rowK, List.getD, hj] using this

/-- The first k rows, z behind. -/
def mixZ (z : List Int) (L : List (List Int)) (m k : Nat) : List (List Int) := L.take k ++ List.replicate (m - k) z
theorem mixZ_length (z : List Int) (L : List (List Int)) (m k : Nat) (hL : L.length = m) (hk : k ≤ m) : (mixZ z L m k).length = m := by simp [mixZ]; omega
theorem mixZ_step (z : List Int) (L : List (List Int)) (m k : Nat) (hL : L.length = m) (hk : k < m) : (mixZ z L m k).set k (rowK L k) = mixZ z L m (k + 1) := by
  unfold mixZ
  have hl : (L.take k).length = k := by simp; omega
  rw [List.set_append_right _ _ (by omega), hl, Nat.sub_self]
  obtain ⟨d, hd⟩ : ∃ d, m - k = d + 1 := ⟨m - k - 1, by omega⟩
  rw [hd, show m - (k + 1) = d by omega, List.replicate_succ, List.set_cons_zero, List.take_succ_eq_append_getElem (by omega), List.append_assoc]
  simp [rowK, List.getD, show k < L.length by omega]
theorem mixZ_full (z : List Int) (L : List (List Int)) (m : Nat) (hL : L.length = m) : mixZ z L m m = L := by simp [mixZ, ← hL]
theorem made_cells (z : Array Value) (c : Value) (hz : 0 < z.size) (h : ∀ i, i < z.size → z[i]! = c) (n : Nat) : (madeCells z n).toList = List.replicate n c := by
  apply List.ext_getElem?
  intro j
  by_cases hj : j < n
  · simp only [madeCells, Array.toList_map, Array.toList_range, List.getElem?_map, List.getElem?_range hj, List.getElem?_replicate, if_pos hj, Option.map_some]
    rw [h _ (Nat.mod_lt _ hz)]
  · simp [madeCells, hj]
end Go.Proofs.YtjpbmhlojpaieaaDoor
