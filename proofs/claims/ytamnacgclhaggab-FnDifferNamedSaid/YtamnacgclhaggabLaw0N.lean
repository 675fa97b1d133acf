/- RingNamed over rows at hand. -/
import Derived.Test.YtamnacgclhaggabDR
import Derived.Test.YtamnacgclhaggabNamedT
namespace Go.Proofs.Ytamnacgclhaggab
open Go.ChangeShapes Go.WideShapes Go.ChangeAt Go.RowKit

section
variable {w : World} {A A' : Option Addr} {n c n' c' : Nat} {l p : List Int}
theorem cM_RingNamed (h : Rw w A n c l) (h' : Rw w A' n' c' p) : Calls Try.prog 43 #[.slice A n c, .slice A' n' c'] w fun e w' => ∃ v, e = .returned (.tuple #[v, .bool (namedB l p)]) ∧ NewR w' v (namedR l p) ∧ Below w.heap.size w w' :=
  (nmI_any A n c A' n' c' w.heap.size l p w h.rd h'.rd (Nat.le_refl _) h.big h'.big h.2.1 h.2.2.1 h'.2.1 h'.2.2.1).mono fun _ _ ⟨v, e1, ho, hb⟩ => ⟨v, e1, ho.newR (namedR_length l p), hb⟩
theorem cN_RingNamed (h : Rw w A n c l) (h' : Rw w A' n' c' p) : Calls Try.prog 44 #[.slice A n c, .slice A' n' c'] w fun e w' => ∃ v, e = .returned (.tuple #[v, .bool (namedB l p)]) ∧ NewR w' v (namedR l p) ∧ Below w.heap.size w w' :=
  (nmS_any A n c A' n' c' w.heap.size l p w h.rd h'.rd (Nat.le_refl _) h.big h'.big).mono fun _ _ ⟨v, e1, ho, hb⟩ => ⟨v, e1, ho.newR (namedR_length l p), hb⟩
end
end Go.Proofs.Ytamnacgclhaggab
