/- The laws' drawers of a part: beside a number (WeaveIn), beside a ring (WeaveHas). -/
import Derived.Test.YtgojojoanhilnabDoorDraw46
import Derived.Test.YtgojojoanhilnabDoorDR
namespace Go.Proofs.YtgojojoanhilnabDoor
open Go.ChangeShapes Go.WideShapes Go.ChangeAt Go.RowKit

/-- A short slice at hand, of any capacity. -/
def RwP (w : World) (A : Option Addr) (n c : Nat) (l : List Int) : Prop := Rd w w.heap.size A n l ∧ n ≤ c ∧ c ≤ 9223372036854775807 ∧ n ≤ 8
def NewP (w : World) (v : Value) (l : List Int) : Prop := ∃ A n c, v = .slice A n c ∧ RwP w A n c l
theorem RwP.step {w w' : World} {A : Option Addr} {n c : Nat} {l : List Int} (h : RwP w A n c l) (k : Below w.heap.size w w') : RwP w' A n c l := ⟨(h.1.below k).more k.size, h.2⟩
theorem RwP.rd {w : World} {A : Option Addr} {n c : Nat} {l : List Int} (h : RwP w A n c l) : Rd w w.heap.size A n l := h.1
theorem RwP.big {w : World} {A : Option Addr} {n c : Nat} {l : List Int} (h : RwP w A n c l) : n ≤ 1048576 := by have := h.2.2.2; omega
theorem RwP.len {w : World} {A : Option Addr} {n c : Nat} {l : List Int} (h : RwP w A n c l) : l.length = n := h.1.len
theorem RowV.newP {w : World} {B : Nat} {v : Value} {l : List Int} (h : RowV w B v l) (h8 : l.length ≤ 8) : NewP w v l := by
  obtain ⟨hg, A, c, e, hc, hm⟩ := h
  subst e
  exact ⟨A, _, c, rfl, hg.rd.2, hc, hm, h8⟩


end Go.Proofs.YtgojojoanhilnabDoor
