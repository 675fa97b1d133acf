/- The functions of chapter 8 over rows at hand. -/
import Derived.Test.YtmfilnpbkonfaaaDoorMA
import Derived.Test.YtmfilnpbkonfaaaDoorPnF
import Derived.Test.YtmfilnpbkonfaaaDoorPnQ
import Derived.Test.YtmfilnpbkonfaaaDoorPR
namespace Go.Proofs.YtmfilnpbkonfaaaDoor
open Go.ChangeShapes Go.WideShapes Go.ChangeAt Go.RowKit

theorem Tab.step {w w' : World} (h : Tab w) (hb : Below w.heap.size w w') : Tab w' := h.on hb
theorem c8I_RingBack {w : World} {A : Option Addr} {n c : Nat} {l : List Int} (h : Rw w A n c l) : Calls Tryd.prog 10 #[.slice A n c] w fun e w' => ∃ v, e = .returned (.tuple #[v, .bool (ringB l)]) ∧ NewR w' v (backR l) ∧ Below w.heap.size w w' :=
  (bkI_any A n c w.heap.size l w h.rd (Nat.le_refl _) h.big h.2.1 h.2.2.1).mono fun _ _ ⟨v, e1, ho, hb⟩ => ⟨v, e1, ho.newR (backR_length l), hb⟩
theorem cI_PatternFree {w : World} {A : Option Addr} {n c : Nat} {l : List Int} (h : Rw w A n c l) (q : Int) (hT : Tab w) : Calls Tryd.prog 8 #[.int .i64 q, .slice A n c] w fun e w' => e = .returned (.tuple #[.int .i64 (freR q l), .bool (freB q l)]) ∧ Below w.heap.size w w' :=
  freI_any A n c w.heap.size q l w h.rd (Nat.le_refl _) h.big h.2.1 h.2.2.1 hT
theorem cS_PatternFree {w : World} {A : Option Addr} {n c : Nat} {l : List Int} (h : Rw w A n c l) (q : Int) : Calls Tryd.prog 9 #[.int .i64 q, .slice A n c] w fun e w' => e = .returned (.tuple #[.int .i64 (freR q l), .bool (freB q l)]) ∧ Below w.heap.size w w' :=
  freS_any A n c w.heap.size q l w h.rd (Nat.le_refl _) h.big
theorem cI_PatternSum {w : World} {A : Option Addr} {n c : Nat} {l : List Int} (h : Rw w A n c l) (q : Int) : Calls Tryd.prog 11 #[.int .i64 q, .slice A n c] w fun e w' => e = .returned (.tuple #[.int .i64 (psmR q l), .bool (psmB q l)]) ∧ Below w.heap.size w w' :=
  psI_any A n c w.heap.size q l w h.rd (Nat.le_refl _) h.big h.2.1 h.2.2.1
end Go.Proofs.YtmfilnpbkonfaaaDoor
