/- Slices of rows at hand; the laws' comparing of two of them. -/
import Derived.Test.YtgojojoanhilnaaDoorDR
import Derived.Test.YtgojojoanhilnaaDoorPE
namespace Go.Proofs.YtgojojoanhilnaaDoor
open Go.ChangeShapes Go.WideShapes Go.ChangeAt Go.RowKit

/-- A slice of short rows at hand: it reads as L in the world as it is. -/
def RwS (w : World) (A : Option Addr) (n c : Nat) (L : List (List Int)) : Prop := (RdS w w.heap.size A n L ∧ tot L ≤ 1048576) ∧ 0 ≤ c
def NewS (w : World) (v : Value) (L : List (List Int)) : Prop := ∃ A n c, v = .slice A n c ∧ RwS w A n c L
section
variable {w w' : World} {A : Option Addr} {n c B C : Nat} {L : List (List Int)} {v : Value}
theorem RwS.step (h : RwS w A n c L) (k : Below w.heap.size w w') : RwS w' A n c L := ⟨⟨(h.1.1.below k).more k.size, h.1.2⟩, h.2⟩
theorem RwS.rd (h : RwS w A n c L) : RdS w w.heap.size A n L := h.1.1
theorem RwS.len (h : RwS w A n c L) : L.length = n := h.1.1.len
theorem RwS.big (h : RwS w A n c L) : n ≤ 1048576 := by have := h.1.2; have := h.len; unfold tot at *; omega
theorem RwS.row (h : RwS w A n c L) (k : Nat) (hk : k < n) : (rowK L k).length ≤ 1048576 := by
  have h1 := h.1.2
  have h2 := h.len
  have h3 := sumTo_le L (k + 1) L.length (by omega)
  unfold tot at h1
  simp only [sumTo] at h3
  omega
theorem OwnS.newS (h : OwnS w B C v L) (ht : tot L ≤ 1048576) : NewS w v L := by
  obtain ⟨A, c, e⟩ := h.slice
  subst e
  exact ⟨A, _, c, rfl, ⟨h.rd.2, ht⟩, Nat.zero_le _⟩
theorem GrowS.newS (h : GrowS w B v L) (ht : tot L ≤ 1048576) : NewS w v L := by
  obtain ⟨A, c, e, _⟩ := h.slice
  subst e
  exact ⟨A, _, c, rfl, ⟨h.rd.2, ht⟩, Nat.zero_le _⟩
theorem newS_of (h : ∃ A c, v = .slice A L.length c ∧ RdS w w.heap.size A L.length L) (ht : tot L ≤ 1048576) : NewS w v L := by
  obtain ⟨A, c, e, hr⟩ := h
  exact ⟨A, _, c, e, ⟨hr, ht⟩, Nat.zero_le _⟩
end
def sameR (L M : List (List Int)) : Bool := decide (L = M)
theorem sameR_self (L : List (List Int)) : sameR L L = true := by simp [sameR]
theorem sameR_eq {L M : List (List Int)} (h : L = M) : sameR L M = true := by simp [sameR, h]
theorem rows_eq_step (xs ys : List (List Int)) (k : Nat) (hx : k < xs.length) (hy : k < ys.length) (h : xs.take k = ys.take k) (he : rowK xs k = rowK ys k) : xs.take (k + 1) = ys.take (k + 1) := by
  have e1 : rowK xs k = xs[k] := by simp [rowK, List.getD, hx]
  have e2 : rowK ys k = ys[k] := by simp [rowK, List.getD, hy]
  rw [List.take_succ_eq_append_getElem hx, List.take_succ_eq_append_getElem hy, h, ← e1, ← e2, he]

end Go.Proofs.YtgojojoanhilnaaDoor
