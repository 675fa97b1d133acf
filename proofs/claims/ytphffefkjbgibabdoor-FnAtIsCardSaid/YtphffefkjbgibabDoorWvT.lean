/- The model's check of a part of n points. -/
import Derived.Test.YtphffefkjbgibabDoorWvR
namespace Go.Proofs.YtphffefkjbgibabDoor
open Go.ChangeShapes Go.WideShapes Go.ChangeAt Go.RowKit

theorem inQ (n a b : Int) (r : Bool) (h : (decide (a ≤ n) && decide (n ≤ b)) = r) (w : World) : Calls Tryd.prog 28 #[.int .i64 n, .int .i64 a, .int .i64 b] w fun e w' => e = .returned (.bool r) ∧ w' = w := by
  subst h
  exact flipW (in_any n a b w)

/-- What the loop has seen of a list: no point yet that tells it is no part. -/
def PrtTo (n : Int) (l : List Int) (k : Nat) : Prop := PtsTo n l k ∧ ∀ j, j < k → l.getD 0 0 ≤ l.getD j 0
theorem prtTo_step (n : Int) (l : List Int) (k : Nat) (hkl : k < l.length) (h : PrtTo n l k) :
    (0 ≤ l.getD k 0 → l.getD k 0 < n → l.getD k 0 ∉ l.take k → l.getD 0 0 ≤ l.getD k 0 → PrtTo n l (k + 1)) ∧ (¬ (0 ≤ l.getD k 0 ∧ l.getD k 0 < n ∧ l.getD k 0 ∉ l.take k ∧ l.getD 0 0 ≤ l.getD k 0) → ¬ Prt n l) := by
  have hp := pts_step n l k hkl h.1
  refine ⟨fun a b c d => ⟨hp.1 ⟨a, b, c⟩, fun j hj => ?_⟩, fun hx ht => ?_⟩
  · rcases Nat.lt_succ_iff_lt_or_eq.1 hj with hj | rfl
    · exact h.2 j hj
    · exact d
  · have hd := ht.2.2.2 _ (getD_mem l k hkl)
    exact hp.2 (fun a => hx ⟨a.1, a.2.1, a.2.2, hd⟩) ht.2.2.1
theorem prtTo_end (n : Int) (l : List Int) (h36 : 3 ≤ n ∧ n ≤ 6) (h0 : 0 < l.length) (h : PrtTo n l l.length) : Prt n l := by
  refine ⟨h36, by intro e; rw [e] at h0; simp at h0, pts_end n l h.1, fun x hx => ?_⟩
  obtain ⟨j, hj, rfl⟩ := List.getElem_of_mem hx
  have := h.2 j hj
  simpa [List.getD, hj] using this
theorem take_bd {n : Int} {l : List Int} {k : Nat} (h6 : n ≤ 6) (h : PrtTo n l k) (hk : k ≤ l.length) : ∀ x ∈ l.take k, 0 ≤ x ∧ x < 7 := fun x hx => by
  obtain ⟨j, hj, rfl⟩ := List.getElem_of_mem hx
  have hj' : j < k := by rw [List.length_take] at hj; omega
  have := h.1.1 j hj'
  rw [List.getElem_take]
  simp [List.getD, show j < l.length by omega] at this
  omega

end Go.Proofs.YtphffefkjbgibabDoor
