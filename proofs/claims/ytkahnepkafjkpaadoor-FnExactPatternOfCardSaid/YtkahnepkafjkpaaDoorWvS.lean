/- The model's set of a list's points, its part of a ring, and whether a ring has a part. -/
import Derived.Test.YtkahnepkafjkpaaDoorWvQ
import Derived.Test.YtkahnepkafjkpaaDoorWvG
import Derived.Test.YtkahnepkafjkpaaDoorWvU
namespace Go.Proofs.YtkahnepkafjkpaaDoor
open Go.ChangeShapes Go.WideShapes Go.ChangeAt Go.RowKit


theorem mask_pos {n : Int} {p : List Int} (h : Prt n p) : 0 < maskN p := by
  have hl := h.len.1
  have hm := getD_mem p 0 (by omega)
  have hb := h.bd _ hm
  have := mask_at h (p.getD 0 0).toNat
  rw [Int.toNat_of_nonneg hb.1, decide_eq_true hm] at this
  rcases Nat.eq_zero_or_pos (maskN p) with e | e
  · rw [e] at this; simp at this
  · exact e
theorem mask_pow {n : Int} {p : List Int} (h : Prt n p) : maskN p < 2 ^ n.toNat := by
  have h3 := h.1
  exact Nat.lt_pow_two_of_testBit _ fun j hj => mask_fits h j (by omega)

theorem pick_step (s : Nat) (C : List Int) (k : Nat) (hk : k < C.length) : pickN s (C.take (k + 1)) = if hasN s (C.getD k 0) then pickN s (C.take k) ++ [C.getD k 0] else pickN s (C.take k) := by
  unfold pickN
  rw [List.take_succ_eq_append_getElem hk, List.filter_append]
  simp only [List.getD, List.getElem?_eq_getElem hk, Option.getD_some, List.filter_cons, List.filter_nil]
  split <;> simp
theorem pick_len (s : Nat) (C : List Int) (k : Nat) : (pickN s (C.take k)).length ≤ k := by
  have := List.length_filter_le (hasN s) (C.take k)
  rw [List.length_take] at this
  unfold pickN; omega

end Go.Proofs.YtkahnepkafjkpaaDoor
