/- The functions of chapter 8 over rows at hand. -/
import Derived.Test.YtmfilnpbkonfaabDoorMA
import Derived.Test.YtmfilnpbkonfaabDoorPnG
namespace Go.Proofs.YtmfilnpbkonfaabDoor
open Go.ChangeShapes Go.WideShapes Go.ChangeAt Go.RowKit

theorem Tab.step {w w' : World} (h : Tab w) (hb : Below w.heap.size w w') : Tab w' := h.on hb
theorem cI_PatternAll {w : World} {A : Option Addr} {n c : Nat} {l : List Int} (h : Rw w A n c l) (hT : Tab w) : Calls Tryd.prog 20 #[.slice A n c] w fun e w' => ∃ v, e = .returned (.tuple #[v, .bool (aplB l)]) ∧ NewG w' v (aplR l) ∧ Below w.heap.size w w' :=
  (aplI_any A n c w.heap.size l w h.rd (Nat.le_refl _) h.big h.2.1 h.2.2.1 hT).mono fun _ _ ⟨v, e1, ho, hb⟩ => ⟨v, e1, ho.newG (aplR_length l), hb⟩
theorem cS_PatternAll {w : World} {A : Option Addr} {n c : Nat} {l : List Int} (h : Rw w A n c l) : Calls Tryd.prog 21 #[.slice A n c] w fun e w' => ∃ v, e = .returned (.tuple #[v, .bool (aplB l)]) ∧ NewR w' v (aplR l) ∧ Below w.heap.size w w' :=
  (aplS_any A n c w.heap.size l w h.rd (Nat.le_refl _) h.big).mono fun _ _ ⟨v, e1, ho, hb⟩ => ⟨v, e1, ho.newR (aplR_length l), hb⟩
end Go.Proofs.YtmfilnpbkonfaabDoor
