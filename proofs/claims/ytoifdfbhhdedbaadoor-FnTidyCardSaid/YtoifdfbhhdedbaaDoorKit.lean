/- The laws' own helpers over slices of ints: the copy, the comparison, the marking and the check of marks, each by its contract. -/
import Derived.Test.YtoifdfbhhdedbaaDoorBase
import Derived.Maps.AppendAt
namespace Go.Proofs.YtoifdfbhhdedbaaDoor
open Go.ChangeShapes Go.WideShapes Go.ChangeAt Go.RowKit

/-- The copy half made: the first k numbers, zeros behind. -/
def half (zs : List Int) (n k : Nat) : List Int := zs.take k ++ List.replicate (n - k) 0
theorem half_length (zs : List Int) (n k : Nat) (hz : zs.length = n) (hk : k ≤ n) : (half zs n k).length = n := by simp [half]; omega
theorem half_zero (zs : List Int) (n : Nat) : half zs n 0 = List.replicate n 0 := by simp [half]
theorem half_full (zs : List Int) (n : Nat) (hz : zs.length = n) : half zs n n = zs := by simp [half, ← hz]
theorem half_step (zs : List Int) (n k : Nat) (hz : zs.length = n) (hk : k < n) : (half zs n k).set k (zs.getD k 0) = half zs n (k + 1) := by
  unfold half
  have hl : (zs.take k).length = k := by simp; omega
  rw [List.set_append_right _ _ (by omega), hl, Nat.sub_self]
  obtain ⟨m, hm⟩ : ∃ m, n - k = m + 1 := ⟨n - k - 1, by omega⟩
  rw [hm, show n - (k + 1) = m by omega, List.replicate_succ, List.set_cons_zero]
  rw [List.take_succ_eq_append_getElem (by omega), List.append_assoc]
  simp [List.getD, show k < zs.length by omega]

theorem take_eq_step (xs ys : List Int) (k : Nat) (hx : k < xs.length) (hy : k < ys.length) (h : xs.take k = ys.take k) (e : xs.getD k 0 = ys.getD k 0) : xs.take (k + 1) = ys.take (k + 1) := by
  rw [List.take_succ_eq_append_getElem hx, List.take_succ_eq_append_getElem hy, h]
  simp [List.getD, hx, hy] at e
  rw [e]

/-- What eqIntS answers. -/
def same (xs ys : List Int) : Bool := decide (xs = ys)

/-- The numbers from k on. -/
def marks (k : Int) : Nat → List Int
  | 0 => []
  | n + 1 => k :: marks (k + 1) n
theorem marks_length (k : Int) (n : Nat) : (marks k n).length = n := by
  induction n generalizing k with
  | zero => rfl
  | succ n ih => simp [marks, ih]
theorem marks_get (k : Int) (n j : Nat) (h : j < n) : (marks k n).getD j 0 = k + j := by
  induction n generalizing k j with
  | zero => omega
  | succ n ih =>
    cases j with
    | zero => simp [marks]
    | succ j => rw [marks]; simp only [List.getD_cons_succ]; rw [ih (k + 1) j (by omega)]; omega
theorem marks_snoc (k : Int) (n : Nat) : marks k (n + 1) = marks k n ++ [k + n] := by
  induction n generalizing k with
  | zero => simp [marks]
  | succ n ih => rw [marks, ih (k + 1), marks]; simp; omega

def partMarked (zs : List Int) (q : Int) (k : Nat) : List Int := marks q k ++ zs.drop k
theorem partMarked_length (zs : List Int) (q : Int) (k : Nat) (h : k ≤ zs.length) : (partMarked zs q k).length = zs.length := by simp [partMarked, marks_length]; omega
theorem partMarked_step (zs : List Int) (q : Int) (k : Nat) (h : k < zs.length) : (partMarked zs q k).set k (q + k) = partMarked zs q (k + 1) := by
  unfold partMarked
  rw [List.set_append_right _ _ (by rw [marks_length]; omega), marks_length, Nat.sub_self, marks_snoc, List.append_assoc, List.drop_eq_getElem_cons h]
  rfl

end Go.Proofs.YtoifdfbhhdedbaaDoor
