/- How many rings have a pattern nowhere: the model, the program. -/
import Derived.Test.YtmfilnpbkonfaabDoorPnX
namespace Go.Proofs.YtmfilnpbkonfaabDoor
open Go.ChangeShapes Go.WideShapes Go.ChangeAt Go.RowKit

/-- Among the first k rings of n points, how many have the pattern nowhere. -/
def freK (n : Nat) (p : List Int) (k : Nat) : Nat := (List.range k).countP fun j : Nat => decide (mnyN (byL n (j : Int)) p = 0)
def freN (n : Nat) (p : List Int) : Nat := freK n p (facM n)
theorem freK_step (n : Nat) (p : List Int) (k : Nat) : freK n p (k + 1) = freK n p k + if mnyN (byL n (k : Int)) p = 0 then 1 else 0 := by
  unfold freK
  rw [List.range_succ, List.countP_append]
  simp [List.countP_cons]
theorem freK_le (n : Nat) (p : List Int) (k : Nat) : freK n p k ≤ k := by
  have := List.countP_le_length (p := fun j : Nat => decide (mnyN (byL n (j : Int)) p = 0)) (l := List.range k)
  rwa [List.length_range] at this
def Fre (n : Int) (p : List Int) : Prop := (3 ≤ n ∧ n ≤ 7) ∧ Ring p
instance (n : Int) (p : List Int) : Decidable (Fre n p) := by unfold Fre; infer_instance
def freB (n : Int) (p : List Int) : Bool := decide (Fre n p)
def freR (n : Int) (p : List Int) : Int := if Fre n p then (freN n.toNat p : Int) else 0
theorem freB_yes {n : Int} {p : List Int} (h : Fre n p) : freB n p = true := by simpa [freB] using h
theorem freB_no {n : Int} {p : List Int} (h : ¬ Fre n p) : freB n p = false := by simpa [freB] using h
theorem byL_tell8 (n j : Nat) (h3 : 3 ≤ n) (h7 : n ≤ 7) (hj : j < facM n) : Tell (byL n j) := (byL_is7 n j h3 h7 hj).tell h3 h7
theorem Own.keep8 {w w' : World} {B : Nat} {v : Value} {l : List Int} (h : Own w B v l) (hb : Below w.heap.size w w') : Own w' B v l := by
  refine ⟨h.1, ?_⟩
  rcases h.2 with e | ⟨g, cap, cur, hv, hg, hh, r⟩
  · exact .inl e
  · exact .inr ⟨g, cap, cur, hv, hg, by rw [hb.block g (Array.getElem?_eq_some_iff.1 hh).1]; exact hh, r⟩
theorem ldE8 {w : World} {B g n c k : Nat} {M : List (List Int)} (h : RowN w B 48 7 (.slice (some ⟨g, 0, none⟩) n c) M) (hk : k < M.length) : (ldR ⟨g, k * 7, none⟩).run Tryd.prog w = .ok (.agg (ints (rowK M k)).toArray) w := by
  obtain ⟨g', c', e, _, _, _, _, hlen, hc⟩ := h.elem hk
  injection e with e1 _ _
  injection e1 with e1
  injection e1 with e1
  subst e1
  exact run_load_at w 48 g (k * 7) (ints (rowK M k)) _ hc rfl Tryd.underlying48 (by rw [ring_size, ints_length, hlen])

end Go.Proofs.YtmfilnpbkonfaabDoor
