/- Rows at hand: a slice that reads as a list, whatever is made meanwhile; the contracts of the chapter of rings over them. -/
import Derived.Test.YtbfdbnminjhocaaMA
import Derived.Test.YtbfdbnminjhocaaMC
import Derived.Test.YtbfdbnminjhocaaMD
import Derived.Test.YtbfdbnminjhocaaMB
namespace Go.Proofs.Ytbfdbnminjhocaa
open Go.ChangeShapes Go.WideShapes Go.ChangeAt Go.RowKit

/-- A short slice at hand: it reads as l in the world as it is. -/
def Rw (w : World) (A : Option Addr) (n c : Nat) (l : List Int) : Prop := Rd w w.heap.size A n l ∧ n ≤ c ∧ c ≤ 9223372036854775807 ∧ n ≤ 7
/-- As below, its capacity not told. -/
def NewG (w : World) (v : Value) (l : List Int) : Prop := ∃ A n c, v = .slice A n c ∧ Rw w A n n l
def NewR (w : World) (v : Value) (l : List Int) : Prop := ∃ A n c, v = .slice A n c ∧ Rw w A n c l
section
variable {w w' w1 w2 : World} {A : Option Addr} {n c B : Nat} {l : List Int} {v : Value}
theorem Rw.step (h : Rw w A n c l) (k : Below w.heap.size w w') : Rw w' A n c l := ⟨(h.1.below k).more k.size, h.2⟩
theorem Rw.rd (h : Rw w A n c l) : Rd w w.heap.size A n l := h.1
theorem Rw.big (h : Rw w A n c l) : n ≤ 1048576 := by have := h.2.2.2; omega
theorem Rw.len (h : Rw w A n c l) : l.length = n := h.1.len
theorem bl_step (h : Below w.heap.size w w1) (k : Below w1.heap.size w1 w2) : Below w.heap.size w w2 := h.trans (k.mono h.size)
theorem Own.newR (h : Own w B v l) (h7 : l.length ≤ 7) : NewR w v l := by
  obtain ⟨hg, A, c, e, hc, hm⟩ := h.rowV5
  subst e
  exact ⟨A, _, c, rfl, hg.rd.2, hc, hm, h7⟩
theorem OwnG.newG (h : OwnG w B v l) (h7 : l.length ≤ 7) : NewG w v l := by
  obtain ⟨A, c, e⟩ := h.slice
  subst e
  have := h.rd.2
  exact ⟨A, _, c, rfl, this, Nat.le_refl _, by omega, h7⟩
theorem RowV.newR (h : RowV w B v l) (h7 : l.length ≤ 7) : NewR w v l := by
  obtain ⟨hg, A, c, e, hc, hm⟩ := h
  subst e
  exact ⟨A, _, c, rfl, hg.rd.2, hc, hm, h7⟩
theorem Rw.at_ (h : Rw w A n c l) (hn : 0 < n) : ∃ b o, A = some ⟨b, o, none⟩ ∧ b < w.heap.size ∧ ∀ k, k < n → w.cell? ⟨b, o + k, none⟩ = some (.int .i64 (l.getD k 0)) := h.1.at_ hn
end
theorem cS_RingIn {w : World} {A : Option Addr} {n c : Nat} {l : List Int} (h : Rw w A n c l) : Calls Try.prog 53 #[.slice A n c] w fun e w' => e = .returned (.bool (ringB l)) ∧ Below w.heap.size w w' :=
  (ringS_any A n c w.heap.size l  w h.rd h.big).mono fun _ _ ⟨e1, e2⟩ => ⟨e1, by subst e2; exact Below.refl _ _⟩
theorem cI_RingNext {w : World} {A : Option Addr} {n c : Nat} {l : List Int} (h : Rw w A n c l) (x : Int) : Calls Try.prog 46 #[.slice A n c, .int .i64 x] w fun e w' => e = .returned (.tuple #[.int .i64 (nextR l x), .bool (hasB l x)]) ∧ Below w.heap.size w w' :=
  (nxI_any A n c w.heap.size l x w h.rd (Nat.le_refl _) h.big h.2.1 h.2.2.1).mono fun _ _ hq => hq
theorem cI_RingSteps {w : World} {A : Option Addr} {n c : Nat} {l : List Int} (h : Rw w A n c l) (x : Int) (y : Int) : Calls Try.prog 16 #[.slice A n c, .int .i64 x, .int .i64 y] w fun e w' => e = .returned (.tuple #[.int .i64 (stepsR l x y), .bool (hasB2 l x y)]) ∧ Below w.heap.size w w' :=
  (spI_any A n c w.heap.size l x y w h.rd (Nat.le_refl _) h.big h.2.1 h.2.2.1).mono fun _ _ hq => hq
theorem cI_RingPut {w : World} {A : Option Addr} {n c : Nat} {l : List Int} (h : Rw w A n c l) (x : Int) : Calls Try.prog 44 #[.slice A n c, .int .i64 x] w fun e w' => ∃ v, e = .returned (.tuple #[v, .bool (putB l x)]) ∧ NewR w' v (putR l x) ∧ Below w.heap.size w w' :=
  (ptI_any A n c w.heap.size l x w h.rd (Nat.le_refl _) h.big h.2.1 h.2.2.1).mono fun _ _ ⟨v, e1, ho, hb⟩ => ⟨v, e1, ho.newR (putR_length l x), hb⟩
theorem cS_RingPut {w : World} {A : Option Addr} {n c : Nat} {l : List Int} (h : Rw w A n c l) (x : Int) : Calls Try.prog 45 #[.slice A n c, .int .i64 x] w fun e w' => ∃ v, e = .returned (.tuple #[v, .bool (putB l x)]) ∧ NewR w' v (putR l x) ∧ Below w.heap.size w w' :=
  (ptS_any A n c w.heap.size l x w h.rd (Nat.le_refl _) h.big).mono fun _ _ ⟨v, e1, ho, hb⟩ => ⟨v, e1, ho.newR (putR_length l x), hb⟩
theorem cI_RingFrom {w : World} {A : Option Addr} {n c : Nat} {l : List Int} (h : Rw w A n c l) (x : Int) (y : Int) : Calls Try.prog 15 #[.slice A n c, .int .i64 x, .int .i64 y] w fun e w' => ∃ v, e = .returned (.tuple #[v, .bool (hasB2 l x y)]) ∧ NewG w' v (fromR l x y) ∧ Below w.heap.size w w' :=
  (frI_any A n c w.heap.size l x y w h.rd (Nat.le_refl _) h.big h.2.1 h.2.2.1).mono fun _ _ ⟨v, e1, ho, hb⟩ => ⟨v, e1, ho.newG (fromR_length l x y), hb⟩
theorem cI_RingNamed {w : World} {A : Option Addr} {n c : Nat} {l : List Int} {A' : Option Addr} {n' c' : Nat} {p : List Int} (h : Rw w A n c l) (h' : Rw w A' n' c' p) : Calls Try.prog 41 #[.slice A n c, .slice A' n' c'] w fun e w' => ∃ v, e = .returned (.tuple #[v, .bool (namedB l p)]) ∧ NewR w' v (namedR l p) ∧ Below w.heap.size w w' :=
  (nmI_any A n c A' n' c' w.heap.size l p w h.rd h'.rd (Nat.le_refl _) h.big h'.big h.2.1 h.2.2.1 h'.2.1 h'.2.2.1).mono fun _ _ ⟨v, e1, ho, hb⟩ => ⟨v, e1, ho.newR (namedR_length l p), hb⟩
theorem cS_RingNamed {w : World} {A : Option Addr} {n c : Nat} {l : List Int} {A' : Option Addr} {n' c' : Nat} {p : List Int} (h : Rw w A n c l) (h' : Rw w A' n' c' p) : Calls Try.prog 42 #[.slice A n c, .slice A' n' c'] w fun e w' => ∃ v, e = .returned (.tuple #[v, .bool (namedB l p)]) ∧ NewR w' v (namedR l p) ∧ Below w.heap.size w w' :=
  (nmS_any A n c A' n' c' w.heap.size l p w h.rd h'.rd (Nat.le_refl _) h.big h'.big).mono fun _ _ ⟨v, e1, ho, hb⟩ => ⟨v, e1, ho.newR (namedR_length l p), hb⟩
theorem cI_RingBy (x : Int) (y : Int) (w : World) : Calls Try.prog 20 #[.int .i64 x, .int .i64 y] w fun e w' => ∃ v, e = .returned (.tuple #[v, .bool (byB x y)]) ∧ NewR w' v (byR x y) ∧ Below w.heap.size w w' :=
  (byIm_any x y w).mono fun _ _ ⟨v, e1, ho, hb⟩ => ⟨v, e1, ho.newR (byR_length x y), hb⟩
theorem cI_RingCount (x : Int) (w : World) : Calls Try.prog 27 #[.int .i64 x] w fun e w' => e = .returned (.tuple #[.int .i64 (rcount x), .bool (decide (3 ≤ x) && decide (x ≤ 7))]) ∧ Below w.heap.size w w' :=
  (countI_any x w).mono fun _ _ ⟨e1, e2⟩ => ⟨e1, by subst e2; exact Below.refl _ _⟩
end Go.Proofs.Ytbfdbnminjhocaa
