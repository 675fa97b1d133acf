/- Rows at hand: a slice that reads as a list, whatever is made meanwhile. -/
import Derived.Test.YtgojojoanhilnabDoorMA
namespace Go.Proofs.YtgojojoanhilnabDoor
open Go.ChangeShapes Go.WideShapes Go.ChangeAt Go.RowKit

/-- A short slice at hand: it reads as l in the world as it is. -/
def Rw (w : World) (A : Option Addr) (n c : Nat) (l : List Int) : Prop := Rd w w.heap.size A n l ∧ n ≤ c ∧ c ≤ 9223372036854775807 ∧ n ≤ 7
/-- As below, its capacity not told. -/
def NewG (w : World) (v : Value) (l : List Int) : Prop := ∃ A n c, v = .slice A n c ∧ Rw w A n n l
def NewR (w : World) (v : Value) (l : List Int) : Prop := ∃ A n c, v = .slice A n c ∧ Rw w A n c l
section
variable {w w' w1 w2 : World} {A : Option Addr} {n c B : Nat} {l : List Int} {v : Value}
theorem Rw.step (h : Rw w A n c l) (k : Below w.heap.size w w') : Rw w' A n c l := ⟨(h.1.below k).more k.size, h.2⟩
theorem Rw.rd (h : Rw w A n c l) : Rd w w.heap.size A n l := h.1
theorem Rw.big (h : Rw w A n c l) : n ≤ 1048576 := by have := h.2.2.2; omega
theorem Rw.len (h : Rw w A n c l) : l.length = n := h.1.len
theorem bl_step (h : Below w.heap.size w w1) (k : Below w1.heap.size w1 w2) : Below w.heap.size w w2 := h.trans (k.mono h.size)
theorem Own.newR (h : Own w B v l) (h7 : l.length ≤ 7) : NewR w v l := by
  obtain ⟨hg, A, c, e, hc, hm⟩ := h.rowV5
  subst e
  exact ⟨A, _, c, rfl, hg.rd.2, hc, hm, h7⟩
theorem OwnG.newG (h : OwnG w B v l) (h7 : l.length ≤ 7) : NewG w v l := by
  obtain ⟨A, c, e⟩ := h.slice
  subst e
  have := h.rd.2
  exact ⟨A, _, c, rfl, this, Nat.le_refl _, by omega, h7⟩
theorem RowV.newR (h : RowV w B v l) (h7 : l.length ≤ 7) : NewR w v l := by
  obtain ⟨hg, A, c, e, hc, hm⟩ := h
  subst e
  exact ⟨A, _, c, rfl, hg.rd.2, hc, hm, h7⟩
theorem Rw.at_ (h : Rw w A n c l) (hn : 0 < n) : ∃ b o, A = some ⟨b, o, none⟩ ∧ b < w.heap.size ∧ ∀ k, k < n → w.cell? ⟨b, o + k, none⟩ = some (.int .i64 (l.getD k 0)) := h.1.at_ hn
end
end Go.Proofs.YtgojojoanhilnabDoor
