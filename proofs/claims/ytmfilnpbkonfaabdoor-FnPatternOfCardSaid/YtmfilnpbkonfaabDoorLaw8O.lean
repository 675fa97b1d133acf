/- The functions of chapter 8 over rows at hand. -/
import Derived.Test.YtmfilnpbkonfaabDoorMA
import Derived.Test.YtmfilnpbkonfaabDoorPnA
namespace Go.Proofs.YtmfilnpbkonfaabDoor
open Go.ChangeShapes Go.WideShapes Go.ChangeAt Go.RowKit

theorem Tab.step {w w' : World} (h : Tab w) (hb : Below w.heap.size w w') : Tab w' := h.on hb
theorem cI_PatternAt {w : World} {A : Option Addr} {n c : Nat} {l : List Int} (h : Rw w A n c l) {A' : Option Addr} {n' c' : Nat} {p : List Int} (h' : Rw w A' n' c' p) (s : Int) (hT : Tab w) : Calls Tryd.prog 8 #[.slice A n c, .slice A' n' c', .int .i64 s] w fun e w' => e = .returned (.bool (paB l p s)) ∧ Below w.heap.size w w' :=
  paI_any A n c A' n' c' w.heap.size l p s w h.rd h'.rd (Nat.le_refl _) h.big h'.big h.2.1 h.2.2.1 h'.2.1 h'.2.2.1 hT
theorem cI_PatternOf {w : World} {A : Option Addr} {n c : Nat} {l : List Int} (h : Rw w A n c l) (s : Int) (hT : Tab w) : Calls Tryd.prog 10 #[.slice A n c, .int .i64 s] w fun e w' => ∃ v, e = .returned (.tuple #[v, .bool (poB l s)]) ∧ NewR w' v (poR l s) ∧ Below w.heap.size w w' :=
  (poI_any A n c w.heap.size l s w h.rd (Nat.le_refl _) h.big h.2.1 h.2.2.1 hT).mono fun _ _ ⟨v, e1, ho, hb⟩ => ⟨v, e1, ho.newR (poR_length l s), hb⟩
theorem cS_PatternAt {w : World} {A : Option Addr} {n c : Nat} {l : List Int} (h : Rw w A n c l) {A' : Option Addr} {n' c' : Nat} {p : List Int} (h' : Rw w A' n' c' p) (s : Int) : Calls Tryd.prog 9 #[.slice A n c, .slice A' n' c', .int .i64 s] w fun e w' => e = .returned (.bool (paB l p s)) ∧ Below w.heap.size w w' :=
  paS_any A n c A' n' c' w.heap.size l p s w h.rd h'.rd (Nat.le_refl _) h.big h'.big
theorem cS_PatternOf {w : World} {A : Option Addr} {n c : Nat} {l : List Int} (h : Rw w A n c l) (s : Int) : Calls Tryd.prog 17 #[.slice A n c, .int .i64 s] w fun e w' => ∃ v, e = .returned (.tuple #[v, .bool (poB l s)]) ∧ NewR w' v (poR l s) ∧ Below w.heap.size w w' :=
  (poS_any A n c w.heap.size l s w h.rd (Nat.le_refl _) h.big).mono fun _ _ ⟨v, e1, ho, hb⟩ => ⟨v, e1, ho.newR (poR_length l s), hb⟩
end Go.Proofs.YtmfilnpbkonfaabDoor
