/- Parts taken from a ring are parts that it has: the maths. -/
import Derived.Test.YtpfdlgofkcpglaaDoorWvB
import Derived.Test.YtpfdlgofkcpglaaDoorWC
namespace Go.Proofs.YtpfdlgofkcpglaaDoor
open Go.ChangeShapes Go.WideShapes Go.ChangeAt Go.RowKit

def partOk (n : Nat) : Bool := (ringsL n).all fun l => (List.range (2 ^ n)).all fun s => decide (s = 0 ∨ (prt (n : Int) (partL l s) = true ∧ maskN (partL l s) = s ∧ (s = 2 ^ n - 1 → partL l s = l)))
theorem part_ok3 : partOk 3 = true := by decide +kernel
theorem part_ok4 : partOk 4 = true := by decide +kernel
theorem part_ok5 : partOk 5 = true := by decide +kernel
theorem part_ok6 : partOk 6 = true := by decide +kernel
theorem part_all {n : Nat} (h3 : 3 ≤ n) (h6 : n ≤ 6) : partOk n = true := by
  obtain rfl | rfl | rfl | rfl : n = 3 ∨ n = 4 ∨ n = 5 ∨ n = 6 := by omega
  · exact part_ok3
  · exact part_ok4
  · exact part_ok5
  · exact part_ok6
theorem part_is {l : List Int} {k : Nat} (h : WP l (k : Int)) : whB l (partL l k) = true ∧ prt (l.length : Int) (partL l k) = true ∧ (k = 2 ^ l.length - 1 → partL l k = l) := by
  obtain ⟨j, e, h0, h1⟩ := wp_nat h
  obtain rfl : j = k := by omega
  have := part_all h.1.1.1 h.2.1
  unfold partOk at this
  rw [List.all_eq_true] at this
  have h4 := this l (rings_in h.1)
  rw [List.all_eq_true] at h4
  have h5 := h4 j (List.mem_range.2 h1)
  simp only [decide_eq_true_eq] at h5
  rcases h5 with h5 | ⟨h5, h6, h7⟩
  · omega
  · have hp : Prt (l.length : Int) (partL l j) := by simpa [prt] using h5
    refine ⟨?_, h5, h7⟩
    rw [wh_all h.1 hp, hasL, h6]
    simp
end Go.Proofs.YtpfdlgofkcpglaaDoor
