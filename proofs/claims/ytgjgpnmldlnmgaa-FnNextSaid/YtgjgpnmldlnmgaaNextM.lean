/- The maths of going on from a point: the points behind it, one after another. -/
import Derived.Test.YtgjgpnmldlnmgaaRingM
import Derived.Test.YtgjgpnmldlnmgaaNextT
namespace Go.Proofs.Ytgjgpnmldlnmgaa
open Go.ChangeShapes Go.WideShapes Go.ChangeAt Go.RowKit

/-- The point i places behind x. -/
def pt (l : List Int) (x : Int) (i : Nat) : Int := l.getD ((l.idxOf x + i) % l.length) 0
theorem pt_zero {l : List Int} {x : Int} (hx : x ∈ l) : pt l x 0 = x := by
  rw [pt, Nat.add_zero, Nat.mod_eq_of_lt (List.idxOf_lt_length_of_mem hx), at_idx l x hx]
theorem pt_full {l : List Int} {x : Int} (hx : x ∈ l) : pt l x l.length = x := by
  rw [pt, Nat.add_mod_right, Nat.mod_eq_of_lt (List.idxOf_lt_length_of_mem hx), at_idx l x hx]
theorem pt_idx {l : List Int} (h : Ring l) (x : Int) (i : Nat) : l.idxOf (pt l x i) = (l.idxOf x + i) % l.length :=
  idxAt h.1.2.2.2 (Nat.mod_lt _ (by have := h.1.1; omega))
theorem pt_in {l : List Int} (h : Ring l) (x : Int) (i : Nat) : pt l x i ∈ l := getD_mem l _ (Nat.mod_lt _ (by have := h.1.1; omega))
theorem pt_next {l : List Int} (h : Ring l) (x : Int) (i : Nat) : hasB l (pt l x i) = true ∧ nextR l (pt l x i) = pt l x (i + 1) := by
  have hb := hasB_of h (pt_in h x i)
  refine ⟨hb, ?_⟩
  rw [nextR, if_pos hb, pt_idx h x i, pt, Nat.mod_add_mod]
  rfl
theorem pt_ne {l : List Int} (h : Ring l) {x : Int} (hx : x ∈ l) {i : Nat} (h1 : 1 ≤ i) (h2 : i < l.length) : pt l x i ≠ x := fun e => by
  have hi := pt_idx h x i
  have hl := List.idxOf_lt_length_of_mem hx
  rw [e] at hi
  rcases Nat.lt_or_ge (l.idxOf x + i) l.length with hlt | hge
  · rw [Nat.mod_eq_of_lt hlt] at hi; omega
  · rw [Nat.mod_eq_sub_mod hge, Nat.mod_eq_of_lt (by omega)] at hi; omega
theorem pt_steps {l : List Int} (h : Ring l) {x : Int} (hx : x ∈ l) : hasB2 l x (pt l x 1) = true ∧ stepsR l x (pt l x 1) = 1 := by
  have hb : hasB2 l x (pt l x 1) = true := by rw [hasB2, hasB_of h hx, hasB_of h (pt_in h x 1)]; rfl
  have h3 := h.1.1
  have hl := List.idxOf_lt_length_of_mem hx
  refine ⟨hb, ?_⟩
  rw [stepsR, if_pos hb, stepsI, pt_idx h x 1]
  rcases Nat.lt_or_ge (l.idxOf x + 1) l.length with hlt | hge
  · rw [Nat.mod_eq_of_lt hlt, show ((l.idxOf x + 1 : Nat) : Int) - (l.idxOf x : Int) = 1 by omega]
    exact Int.emod_eq_of_lt (by omega) (by omega)
  · have e : l.idxOf x + 1 = l.length := by omega
    rw [e, Nat.mod_self, ← Int.add_emod_right, show ((0 : Nat) : Int) - (l.idxOf x : Int) + (l.length : Int) = 1 by omega]
    exact Int.emod_eq_of_lt (by omega) (by omega)
end Go.Proofs.Ytgjgpnmldlnmgaa
