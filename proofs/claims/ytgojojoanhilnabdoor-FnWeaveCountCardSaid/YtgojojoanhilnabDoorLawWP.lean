/- Parts: contracts over rows at hand. -/
import Derived.Test.YtgojojoanhilnabDoorDraw47
import Derived.Test.YtgojojoanhilnabDoorRwS
import Derived.Test.YtgojojoanhilnabDoorWA
import Derived.Test.YtgojojoanhilnabDoorWvY1
import Derived.Test.YtgojojoanhilnabDoorWvY2
import Derived.Test.YtgojojoanhilnabDoorWvY3
import Derived.Test.YtgojojoanhilnabDoorWfV
import Derived.Test.YtgojojoanhilnabDoorCount
import Derived.Test.YtgojojoanhilnabDoorBackT
import Derived.Test.YtgojojoanhilnabDoorMA
namespace Go.Proofs.YtgojojoanhilnabDoor
open Go.ChangeShapes Go.WideShapes Go.ChangeAt Go.RowKit

theorem Tab.step {w w' : World} (h : Tab w) (hb : Below w.heap.size w w') : Tab w' := h.on hb
theorem RwP.of {w : World} {A : Option Addr} {n c : Nat} {l : List Int} (h : Rw w A n c l) : RwP w A n c l := ⟨h.1, h.2.1, h.2.2.1, by have := h.2.2.2; omega⟩
section
variable {w : World} {A A' : Option Addr} {n c m d : Nat} {p q l : List Int} {L : List (List Int)}
theorem cI_WeaveFirst (h : RwS w A n c L) (x : Int) (hT : Tab w) : Calls Tryd.prog 7 #[.int .i64 x, .slice A n c] w fun e w' => ∃ v, e = .returned (.tuple #[v, .bool (wfsB x L)]) ∧ NewR w' v (wfsR x L) ∧ Below w.heap.size w w' :=
  (wfIv_any A n c w.heap.size x L w h.rd (Nat.le_refl _) h.1.2 hT).mono fun _ _ ⟨v, e1, ho, hb⟩ => ⟨v, e1, ho.newR (wfsR_length x L), hb⟩
theorem cS_WeaveFirst (h : RwS w A n c L) (x : Int) : Calls Tryd.prog 8 #[.int .i64 x, .slice A n c] w fun e w' => ∃ v, e = .returned (.tuple #[v, .bool (wfsB x L)]) ∧ NewG w' v (wfsR x L) ∧ Below w.heap.size w w' :=
  (wfS_any A n c w.heap.size x L w h.rd (Nat.le_refl _) h.1.2).mono fun _ _ ⟨v, e1, ho, hb⟩ => ⟨v, e1, ho.newG (wfsR_length x L), hb⟩
theorem cI_WeaveHasP (h : RwP w A n c l) (h' : RwP w A' m d p) (hT : Tab w) : Calls Tryd.prog 10 #[.slice A n c, .slice A' m d] w fun e w' => e = .returned (.bool (whB l p)) ∧ Below w.heap.size w w' :=
  whI_any A n c A' m d w.heap.size l p w h.rd h'.rd (Nat.le_refl _) h.big h'.big h.2.1 h.2.2.1 h'.2.1 h'.2.2.1 hT
theorem cI_WeaveHasG (h : Rd w w.heap.size A n l) (hn : n ≤ c ∧ c ≤ 9223372036854775807 ∧ n ≤ 1048576) (h' : Rd w w.heap.size A' m p) (hm : m ≤ d ∧ d ≤ 9223372036854775807 ∧ m ≤ 1048576) (hT : Tab w) : Calls Tryd.prog 10 #[.slice A n c, .slice A' m d] w fun e w' => e = .returned (.bool (whB l p)) ∧ Below w.heap.size w w' :=
  whI_any A n c A' m d w.heap.size l p w h h' (Nat.le_refl _) hn.2.2 hm.2.2 hn.1 hn.2.1 hm.1 hm.2.1 hT
theorem cI_WeaveCountP (h : Rw w A n c p) (h' : Rw w A' m d q) (x : Int) (hT : Tab w) : Calls Tryd.prog 13 #[.int .i64 x, .slice A n c, .slice A' m d] w fun e w' => e = .returned (.tuple #[.int .i64 (wctR x p q), .bool (wov x p q)]) ∧ Below w.heap.size w w' :=
  wcI_any A n c A' m d w.heap.size x p q w h.rd h'.rd (Nat.le_refl _) h.big h'.big h.2.1 h.2.2.1 h'.2.1 h'.2.2.1 hT
theorem cS_WeaveCountP (h : Rw w A n c p) (h' : Rw w A' m d q) (x : Int) : Calls Tryd.prog 14 #[.int .i64 x, .slice A n c, .slice A' m d] w fun e w' => e = .returned (.tuple #[.int .i64 (wctR x p q), .bool (wov x p q)]) ∧ Below w.heap.size w w' :=
  wcS_any A n c A' m d w.heap.size x p q w h.rd h'.rd (Nat.le_refl _) h.big h'.big h.2.1 h.2.2.1 h'.2.1 h'.2.2.1
theorem cI_WeaveSumP (h : Rw w A n c p) (h' : Rw w A' m d q) (x : Int) : Calls Tryd.prog 15 #[.int .i64 x, .slice A n c, .slice A' m d] w fun e w' => e = .returned (.tuple #[.int .i64 (wsmR x p q), .bool (wov x p q)]) ∧ Below w.heap.size w w' :=
  wsI_any A n c A' m d w.heap.size x p q w h.rd h'.rd (Nat.le_refl _) h.big h'.big h.2.1 h.2.2.1 h'.2.1 h'.2.2.1
theorem cW_RingIn (h : Rw w A n c l) : Calls Tryd.prog 11 #[.slice A n c] w fun e w' => e = .returned (.bool (ringB l)) ∧ Below w.heap.size w w' :=
  ringI_any A n c w.heap.size l w h.rd (Nat.le_refl _) h.big h.2.1 h.2.2.1
/-- A row of one part. -/
theorem rws_one (h : RwP w A n c p) : RwS (w.alloc (.cells #[.slice A n c] 26)) (some ⟨w.heap.size, 0, none⟩) 1 1 [p] := by
  have hb : Below w.heap.size w (w.alloc (.cells #[.slice A n c] 26)) := (Below.refl _ _).alloc (Nat.le_refl _) _
  have hl := h.len
  refine ⟨⟨⟨rfl, fun _ => ⟨w.heap.size, 0, rfl, by simp, fun k hk => ?_⟩⟩, by have := h.2.2.2; simp [tot, sumTo, rowK]; omega⟩, Nat.zero_le _⟩
  obtain rfl : k = 0 := by omega
  refine ⟨A, c, ?_, ?_, by show p.length ≤ c; rw [hl]; exact h.2.1, h.2.2.1⟩
  · show _ = some (Value.slice A p.length c)
    rw [hl, cell_of_row _ w.heap.size _ _ _ _ (heap_alloc_new w _)]
    rfl
  · show Rd _ _ A p.length p
    rw [hl]
    exact (h.rd.below hb).more (by simp)
end
end Go.Proofs.YtgojojoanhilnabDoor
