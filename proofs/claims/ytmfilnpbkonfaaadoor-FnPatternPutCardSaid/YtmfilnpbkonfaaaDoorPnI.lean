/- Patterns of a ring with a point more; how many sets of as many points there are. Plain lemmas. -/
import Derived.Test.YtmfilnpbkonfaaaDoorPnC
import Derived.Test.YtmfilnpbkonfaaaDoorDP
namespace Go.Proofs.YtmfilnpbkonfaaaDoor
open Go.ChangeShapes Go.WideShapes Go.ChangeAt Go.RowKit

theorem pick_put (l : List Int) (x : Int) {s : Nat} (hs : s < 2 ^ l.length) : pickN s (putL l x) = pickN s l := by
  have h : hasN s (l.length : Int) = false := by
    unfold hasN
    rw [Int.toNat_natCast]
    exact Nat.testBit_lt_two_pow hs
  unfold pickN putL
  rw [List.filter_append, List.filter_cons, if_neg (by rw [h]; simp), ← List.filter_append, List.take_append_drop]
theorem at_put {l : List Int} {x : Int} (ht : Tell l) (hx : x ∈ l) (h6 : l.length < 7) (p : List Int) {s : Nat} (h0 : 0 < s) (hs : s < 2 ^ l.length) : atN (putL l x) p s = atN l p s := by
  have ht' := putL_tell ht hx h6
  have hl := putL_length l x hx
  have hs' : s < 2 ^ (putL l x).length := by rw [hl]; exact Nat.lt_of_lt_of_le hs (Nat.pow_le_pow_right (by omega) (by omega))
  unfold atN
  rw [← pat_row ht h0 hs, ← pat_row ht' h0 hs', rowS, rowS, pick_put l x hs]
theorem mny_put {l p : List Int} {x : Int} (ht : Tell l) (hx : x ∈ l) (h6 : l.length < 7) (hp : 0 < p.length) : mnyN l p ≤ mnyN (putL l x) p := by
  have hl := putL_length l x hx
  unfold mnyN cntP
  rw [hl]
  have e : (List.range (2 ^ l.length)).countP (atN l p) = (List.range (2 ^ l.length)).countP (atN (putL l x) p) := by
    refine List.countP_congr fun s hs => ?_
    rcases Nat.eq_zero_or_pos s with rfl | h0
    · rw [at_zero _ _ hp, at_zero _ _ hp]
    · rw [at_put ht hx h6 p h0 (List.mem_range.1 hs)]
  rw [e]
  exact (List.range_sublist.2 (Nat.pow_le_pow_right (by omega) (by omega))).countP_le
end Go.Proofs.YtmfilnpbkonfaaaDoor
