/- All pairs in order: the program's row; the partings by pairs. -/
import Derived.Test.YtamnacgclhaggabPai
import Derived.Test.YtamnacgclhaggabChI
namespace Go.Proofs.Ytamnacgclhaggab
open Go.ChangeShapes Go.WideShapes Go.ChangeAt Go.RowKit

/-- What the program asks of two pairs. -/
def ikB (l e o : List Int) : Bool := decide (e.getD 0 0 < o.getD 0 0) && (!meetB (e.getD 0 0) (e.getD 1 0) (o.getD 0 0) (o.getD 1 0) && partB l (e ++ o))
def ik (l e o : List Int) : List (List Int) := if ikB l e o then [e ++ o] else []
theorem range_split (a n : Nat) (h : a < n) : List.range n = List.range (a + 1) ++ upto a n := by
  unfold upto
  rw [List.range_eq_range', List.range_eq_range', show n = (a + 1) + (n - (a + 1)) by omega, ← List.range'_append_1]
  simp
theorem ik_pk (l : List Int) (a b c d : Nat) (hab : a < b) (hb : b < l.length) (hac : a < c) (hcd : c < d) (hd : d < l.length) : ik l (p2 a b) (p2 c d) = pk l a b c d := by
  have hm := four_meet (n := (l.length : Int)) (x := a) (y := b) (z := c) (u := d) ((twoL2 _ _ _).2 ⟨by omega, by omega, by omega⟩) ((twoL2 _ _ _).2 ⟨by omega, by omega, by omega⟩)
  unfold ik ikB pk
  have e1 : (p2 a b ++ p2 c d) = p4 a b c d := rfl
  have e2 : decide ((p2 a b).getD 0 0 < (p2 c d).getD 0 0) = true := by simp [p2]; omega
  rw [e1, e2, Bool.true_and]
  show (if (!meetB (a : Int) (b : Int) (c : Int) (d : Int) && partB l (p4 a b c d)) = true then _ else _) = _
  unfold p4
  rw [hm]
theorem ik_low (l : List Int) (a b c d : Nat) (h : c ≤ a) : ik l (p2 a b) (p2 c d) = [] := by
  unfold ik ikB
  have e2 : decide ((p2 a b).getD 0 0 < (p2 c d).getD 0 0) = false := by simp [p2]; omega
  rw [e2]; rfl
theorem flatMap_nil {α β : Type} (L : List α) (f : α → List β) (h : ∀ x ∈ L, f x = []) : L.flatMap f = [] := by
  rw [List.flatMap_eq_nil_iff]; exact h
theorem flatMap_congr {α β : Type} (L : List α) (f g : α → List β) (h : ∀ x ∈ L, f x = g x) : L.flatMap f = L.flatMap g := by
  induction L with
  | nil => rfl
  | cons x L ih => rw [List.flatMap_cons, List.flatMap_cons, h x (by simp), ih (fun y hy => h y (by simp [hy]))]
theorem allP_eq (l : List Int) : allP l = (pairsL l.length).flatMap fun e => (pairsL l.length).flatMap fun o => ik l e o := by
  unfold allP sw
  rw [show pairsL l.length = (List.range l.length).flatMap (fun j => pv j l.length) from rfl]
  rw [List.flatMap_assoc]
  refine flatMap_congr _ _ _ (fun a ha => ?_)
  have ha' := List.mem_range.1 ha
  unfold sx pv
  rw [List.flatMap_map]
  refine flatMap_congr _ _ _ (fun b hb => ?_)
  have hb' := upto_mem hb
  rw [range_split a l.length ha', List.flatMap_append, List.flatMap_append, flatMap_nil (List.flatMap _ (List.range (a + 1)))]
  · rw [List.nil_append, List.flatMap_assoc]
    unfold sy
    refine flatMap_congr _ _ _ (fun c hc => ?_)
    have hc' := upto_mem hc
    unfold sz
    rw [List.flatMap_map]
    refine flatMap_congr _ _ _ (fun d hd => ?_)
    have hd' := upto_mem hd
    exact (ik_pk l a b c d hb'.1 hb'.2 hc'.1 hd'.1 hd'.2).symm
  · intro o ho
    simp only [List.mem_flatMap, List.mem_map, List.mem_range] at ho
    obtain ⟨c, hc, d, _, rfl⟩ := ho
    exact ik_low l a b c d (by omega)
end Go.Proofs.Ytamnacgclhaggab
