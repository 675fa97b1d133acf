/- Lists of pairs: the model's check, the model's count of those that part each other. -/
import Derived.Test.YtamnacgclhaggabPE
import Derived.Test.YtamnacgclhaggabPart
namespace Go.Proofs.Ytamnacgclhaggab
open Go.ChangeShapes Go.WideShapes Go.ChangeAt Go.RowKit

def choB (n : Int) (L : List (List Int)) : Bool := decide (L.length ≤ 8) && allB (two n) L
theorem cho_yes {n : Int} {L : List (List Int)} (h : choB n L = true) : L.length ≤ 8 ∧ ∀ l ∈ L, Two n l := by
  unfold choB at h
  simp only [Bool.and_eq_true, decide_eq_true_eq, allB_iff] at h
  exact ⟨h.1, fun l hl => by have := h.2 l hl; simpa [two] using this⟩
theorem twoL2 (n x y : Int) : Two n [x, y] ↔ (0 ≤ x ∧ x ≤ n - 1) ∧ (0 ≤ y ∧ y ≤ n - 1) ∧ x ≠ y := by
  unfold Two Pts
  simp only [List.mem_cons, List.not_mem_nil, or_false, List.nodup_cons, List.nodup_nil, and_true, forall_eq_or_imp, forall_eq, List.length_cons, List.length_nil]
  constructor
  · rintro ⟨_, ⟨hx, hy⟩, h1, _⟩; exact ⟨by omega, by omega, fun e => h1 e⟩
  · rintro ⟨hx, hy, h1⟩; exact ⟨trivial, ⟨by omega, by omega⟩, fun e => h1 e, by simp⟩

end Go.Proofs.Ytamnacgclhaggab
