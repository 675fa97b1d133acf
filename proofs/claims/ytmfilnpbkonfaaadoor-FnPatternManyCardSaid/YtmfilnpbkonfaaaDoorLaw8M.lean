/- The functions of chapter 8 over rows at hand. -/
import Derived.Test.YtmfilnpbkonfaaaDoorMA
import Derived.Test.YtmfilnpbkonfaaaDoorPnX
import Derived.Test.YtmfilnpbkonfaaaDoorPnY
import Derived.Test.YtmfilnpbkonfaaaDoorPR
namespace Go.Proofs.YtmfilnpbkonfaaaDoor
open Go.ChangeShapes Go.WideShapes Go.ChangeAt Go.RowKit

theorem Tab.step {w w' : World} (h : Tab w) (hb : Below w.heap.size w w') : Tab w' := h.on hb
theorem c8I_RingBack {w : World} {A : Option Addr} {n c : Nat} {l : List Int} (h : Rw w A n c l) : Calls Tryd.prog 10 #[.slice A n c] w fun e w' => ∃ v, e = .returned (.tuple #[v, .bool (ringB l)]) ∧ NewR w' v (backR l) ∧ Below w.heap.size w w' :=
  (bkI_any A n c w.heap.size l w h.rd (Nat.le_refl _) h.big h.2.1 h.2.2.1).mono fun _ _ ⟨v, e1, ho, hb⟩ => ⟨v, e1, ho.newR (backR_length l), hb⟩
theorem cI_PatternMany {w : World} {A : Option Addr} {n c : Nat} {l : List Int} (h : Rw w A n c l) {A' : Option Addr} {n' c' : Nat} {p : List Int} (h' : Rw w A' n' c' p) (hT : Tab w) : Calls Tryd.prog 15 #[.slice A n c, .slice A' n' c'] w fun e w' => e = .returned (.tuple #[.int .i64 (pmR l p), .bool (two8 l p)]) ∧ Below w.heap.size w w' :=
  pmI_any A n c A' n' c' w.heap.size l p w h.rd h'.rd (Nat.le_refl _) h.big h'.big h.2.1 h.2.2.1 h'.2.1 h'.2.2.1 hT
theorem cS_PatternMany {w : World} {A : Option Addr} {n c : Nat} {l : List Int} (h : Rw w A n c l) {A' : Option Addr} {n' c' : Nat} {p : List Int} (h' : Rw w A' n' c' p) : Calls Tryd.prog 17 #[.slice A n c, .slice A' n' c'] w fun e w' => e = .returned (.tuple #[.int .i64 (pmR l p), .bool (two8 l p)]) ∧ Below w.heap.size w w' :=
  pmS_any A n c A' n' c' w.heap.size l p w h.rd h'.rd (Nat.le_refl _) h.big h'.big
theorem cI_PatternFirst {w : World} {A : Option Addr} {n c : Nat} {l : List Int} (h : Rw w A n c l) {A' : Option Addr} {n' c' : Nat} {p : List Int} (h' : Rw w A' n' c' p) (hT : Tab w) : Calls Tryd.prog 18 #[.slice A n c, .slice A' n' c'] w fun e w' => e = .returned (.tuple #[.int .i64 (pfR l p), .bool (pfB l p)]) ∧ Below w.heap.size w w' :=
  pfI_any A n c A' n' c' w.heap.size l p w h.rd h'.rd (Nat.le_refl _) h.big h'.big h.2.1 h.2.2.1 h'.2.1 h'.2.2.1 hT
theorem cI_PatternBack {w : World} {A : Option Addr} {n c : Nat} {l : List Int} (h : Rw w A n c l) {A' : Option Addr} {n' c' : Nat} {p : List Int} (h' : Rw w A' n' c' p) (hT : Tab w) : Calls Tryd.prog 13 #[.slice A n c, .slice A' n' c'] w fun e w' => e = .returned (.tuple #[.int .i64 (pbR l p), .bool (two8 l p)]) ∧ Below w.heap.size w w' :=
  pbI_any A n c A' n' c' w.heap.size l p w h.rd h'.rd (Nat.le_refl _) h.big h'.big h.2.1 h.2.2.1 h'.2.1 h'.2.2.1 hT
theorem cS_PatternBack {w : World} {A : Option Addr} {n c : Nat} {l : List Int} (h : Rw w A n c l) {A' : Option Addr} {n' c' : Nat} {p : List Int} (h' : Rw w A' n' c' p) : Calls Tryd.prog 14 #[.slice A n c, .slice A' n' c'] w fun e w' => e = .returned (.tuple #[.int .i64 (pbR l p), .bool (two8 l p)]) ∧ Below w.heap.size w w' :=
  pbS_any A n c A' n' c' w.heap.size l p w h.rd h'.rd (Nat.le_refl _) h.big h'.big
end Go.Proofs.YtmfilnpbkonfaaaDoor
