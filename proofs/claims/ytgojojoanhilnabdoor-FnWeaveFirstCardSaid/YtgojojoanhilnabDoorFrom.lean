/- RingFrom of the model and of the program: the points between. -/
import Derived.Test.YtgojojoanhilnabDoorStepsT
import Derived.Test.YtgojojoanhilnabDoorCutT
import Derived.Test.YtgojojoanhilnabDoorMA
namespace Go.Proofs.YtgojojoanhilnabDoor
open Go.ChangeShapes Go.WideShapes Go.ChangeAt Go.RowKit

theorem own_keep {w w' : World} {B D : Nat} {v : Value} {l : List Int} (h : Own w B v l) (hb : Below D w w') (hD : ∀ k, v.ownBlock = some k → k < D) : Own w' B v l := by
  refine ⟨h.1, ?_⟩
  rcases h.2 with e | ⟨g, cap, cur, hv, hg, hh, r⟩
  · exact .inl e
  · exact .inr ⟨g, cap, cur, hv, hg, by rw [hb.block g (hD g (by rw [hv]; rfl))]; exact hh, r⟩
theorem own_head {w : World} {B : Nat} {v : Value} {l : List Int} (h : Own w B v l) (hl : 0 < l.length) :
    ∃ g cap, v = .slice (some ⟨g, 0, none⟩) l.length cap ∧ l.length ≤ cap ∧ ∀ k, k < l.length → w.cell? ⟨g, k, none⟩ = some (.int .i64 (l.getD k 0)) := by
  rcases h.2 with ⟨_, h0⟩ | ⟨g, cap, cur, rfl, hg, hh, hnc, hcm, hcs, ht⟩
  · omega
  · refine ⟨g, cap, rfl, hnc, fun k hk => ?_⟩
    rw [h.cellAt k (by omega), ints_get _ _ hk]
theorem ownG_less {w : World} {B B' : Nat} {v : Value} {l : List Int} (h : OwnG w B v l) (hB : B' ≤ B) : OwnG w B' v l := by
  rcases h with h | ⟨g, o, c, cur, hv, hg, r⟩
  · exact .inl h
  · exact .inr ⟨g, o, c, cur, hv, Nat.le_trans hB hg, r⟩

/-- Where the points between x and y end on the list that begins with x. -/
def endN (l : List Int) (x y : Int) : Nat := if x = y then l.length else (stepsI l x y).toNat
def fromL (l : List Int) (x y : Int) : List Int := ((cutL l x).take (endN l x y)).drop 1
def fromR (l : List Int) (x y : Int) : List Int := if hasB2 l x y then fromL l x y else []

theorem steps_zero (l : List Int) (x y : Int) (ht : Tell l) (hx : x ∈ l) (hy : y ∈ l) : (stepsI l x y = 0 ↔ x = y) ∧ 0 ≤ stepsI l x y ∧ stepsI l x y < l.length := by
  have hix := List.idxOf_lt_length_of_mem hx
  have hiy := List.idxOf_lt_length_of_mem hy
  have h3 := ht.1
  unfold stepsI
  refine ⟨⟨fun h => ?_, fun h => by subst h; simp⟩, Int.emod_nonneg _ (by omega), Int.emod_lt_of_pos _ (by omega)⟩
  have hd := Int.dvd_of_emod_eq_zero h
  obtain ⟨k, hk⟩ := hd
  have hk0 : k = 0 := by
    rcases Int.lt_trichotomy k 0 with hlt | h0 | hgt
    · exfalso
      have : (l.length : Int) * k ≤ (l.length : Int) * (-1) := Int.mul_le_mul_of_nonneg_left (by omega) (by omega)
      omega
    · exact h0
    · exfalso
      have : (l.length : Int) * 1 ≤ (l.length : Int) * k := Int.mul_le_mul_of_nonneg_left (by omega) (by omega)
      omega
  rw [hk0] at hk
  have e : l.idxOf x = l.idxOf y := by omega
  rw [← at_idx l x hx, e, at_idx l y hy]

theorem endN_of (l : List Int) (x y : Int) (ht : Tell l) (hx : x ∈ l) (hy : y ∈ l) :
    1 ≤ endN l x y ∧ endN l x y ≤ l.length ∧ (if stepsI l x y = 0 then (endN l x y : Int) = l.length else (endN l x y : Int) = stepsI l x y) := by
  obtain ⟨h1, h2, h3⟩ := steps_zero l x y ht hx hy
  have h4 := ht.1
  unfold endN
  by_cases e : x = y
  · rw [if_pos e, if_pos (h1.2 e)]
    omega
  · have hne : ¬ stepsI l x y = 0 := fun h => e (h1.1 h)
    rw [if_neg e, if_neg hne]
    omega
theorem fromL_length (l : List Int) (x y : Int) (h : endN l x y ≤ (cutL l x).length) : (fromL l x y).length = endN l x y - 1 := by
  unfold fromL
  rw [List.length_drop, List.length_take]
  omega
theorem fromL_get (l : List Int) (x y : Int) (j : Nat) (hj : j < endN l x y - 1) (_ : endN l x y ≤ (cutL l x).length) : (fromL l x y).getD j 0 = (cutL l x).getD (1 + j) 0 := by
  unfold fromL
  simp only [List.getD, List.getElem?_drop, List.getElem?_take]
  rw [if_pos (by omega)]
theorem fromR_length (l : List Int) (x y : Int) : (fromR l x y).length ≤ 7 := by
  unfold fromR
  split
  · rename_i h
    simp only [hasB2, Bool.and_eq_true] at h
    have h3 := hasB_yes h.1
    have := h3.1.1.2.1
    unfold fromL
    rw [List.length_drop, List.length_take, cutL_length]
    omega
  · simp

end Go.Proofs.YtgojojoanhilnabDoor
