/- The functions of chapter 8 over rows at hand. -/
import Derived.Test.YtmfilnpbkonfaaaDoorMA
import Derived.Test.YtmfilnpbkonfaaaDoorDP
namespace Go.Proofs.YtmfilnpbkonfaaaDoor
open Go.ChangeShapes Go.WideShapes Go.ChangeAt Go.RowKit

theorem cI_RingPut {w : World} {A : Option Addr} {n c : Nat} {l : List Int} (h : Rw w A n c l) (x : Int) : Calls Tryd.prog 21 #[.slice A n c, .int .i64 x] w fun e w' => ∃ v, e = .returned (.tuple #[v, .bool (putB l x)]) ∧ NewR w' v (putR l x) ∧ Below w.heap.size w w' :=
  (ptI_any A n c w.heap.size l x w h.rd (Nat.le_refl _) h.big h.2.1 h.2.2.1).mono fun _ _ ⟨v, e1, ho, hb⟩ => ⟨v, e1, ho.newR (putR_length l x), hb⟩
end Go.Proofs.YtmfilnpbkonfaaaDoor
