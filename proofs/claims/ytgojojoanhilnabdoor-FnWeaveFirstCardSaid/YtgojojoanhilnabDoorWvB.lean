/- Parts of a ring gone the other way: the maths. -/
import Derived.Test.YtgojojoanhilnabDoorWA
import Derived.Test.YtgojojoanhilnabDoorAllR
import Derived.Test.YtgojojoanhilnabDoorRank
import Derived.Test.YtgojojoanhilnabDoorWvY1
namespace Go.Proofs.YtgojojoanhilnabDoor
open Go.ChangeShapes Go.WideShapes Go.ChangeAt Go.RowKit

def backOk (n : Nat) : Bool := (ringsL n).all fun l => (List.range (2 ^ n)).all fun s => decide (s = 0 ∨ partL (backL l) s = backL (partL l s))
theorem back_ok3 : backOk 3 = true := by decide +kernel
theorem back_ok4 : backOk 4 = true := by decide +kernel
theorem back_ok5 : backOk 5 = true := by decide +kernel
theorem back_ok6 : backOk 6 = true := by decide +kernel

theorem facM6 (n : Nat) (h3 : 3 ≤ n) (h6 : n ≤ 6) : (facM n : Int) = facN (n - 1) := (facM_eq7 n h3 (by omega)).1
theorem rings_in {r : List Int} (h : Ring r) : r ∈ ringsL r.length := by
  obtain ⟨h0, h1, h2⟩ := ring_num h
  have hf := (facM_eq7 r.length h.1.1 h.1.2.1).1
  exact List.mem_map.2 ⟨(numP r r.length).toNat, List.mem_range.2 (by omega), by rw [Int.toNat_of_nonneg h0]; exact h2⟩
theorem back_all {n : Nat} (h3 : 3 ≤ n) (h6 : n ≤ 6) : backOk n = true := by
  obtain rfl | rfl | rfl | rfl : n = 3 ∨ n = 4 ∨ n = 5 ∨ n = 6 := by omega
  · exact back_ok3
  · exact back_ok4
  · exact back_ok5
  · exact back_ok6
theorem part_back {l : List Int} {k : Nat} (h : WP l (k : Int)) : wpB (backL l) (k : Int) = true ∧ wpR (backL l) (k : Int) = backL (partL l k) := by
  obtain ⟨j, e, h0, h1⟩ := wp_nat h
  obtain rfl : j = k := by omega
  have hb : WP (backL l) (j : Int) := by
    refine ⟨backL_ring' h.1, ?_, h.2.2.1, ?_⟩
    · rw [backL_length]; exact h.2.1
    · rw [backL_length]; exact h.2.2.2
  obtain ⟨e1, e2⟩ := wp_yes hb
  rw [Int.toNat_natCast] at e2
  refine ⟨e1, e2.trans ?_⟩
  have := back_all h.1.1.1 h.2.1
  unfold backOk at this
  rw [List.all_eq_true] at this
  have h4 := this l (rings_in h.1)
  rw [List.all_eq_true] at h4
  have h5 := h4 j (List.mem_range.2 h1)
  simp only [decide_eq_true_eq] at h5
  rcases h5 with h5 | h5
  · omega
  · exact h5
end Go.Proofs.YtgojojoanhilnabDoor
