/- The functions of chapter 8 over rows at hand. -/
import Derived.Test.YtphffefkjbgibabDoorDR
import Derived.Test.YtphffefkjbgibabDoorPnX
namespace Go.Proofs.YtphffefkjbgibabDoor
open Go.ChangeShapes Go.WideShapes Go.ChangeAt Go.RowKit

theorem cI_PatternMany {w : World} {A : Option Addr} {n c : Nat} {l : List Int} (h : Rw w A n c l) {A' : Option Addr} {n' c' : Nat} {p : List Int} (h' : Rw w A' n' c' p) (hT : Tab w) : Calls Tryd.prog 8 #[.slice A n c, .slice A' n' c'] w fun e w' => e = .returned (.tuple #[.int .i64 (pmR l p), .bool (two8 l p)]) ∧ Below w.heap.size w w' :=
  pmI_any A n c A' n' c' w.heap.size l p w h.rd h'.rd (Nat.le_refl _) h.big h'.big h.2.1 h.2.2.1 h'.2.1 h'.2.2.1 hT
end Go.Proofs.YtphffefkjbgibabDoor
