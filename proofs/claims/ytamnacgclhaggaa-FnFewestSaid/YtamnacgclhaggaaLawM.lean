/- Some contracts of rings and partings over rows at hand. -/
import Derived.Test.YtamnacgclhaggaaDR
import Derived.Test.YtamnacgclhaggaaPR
import Derived.Test.YtamnacgclhaggaaMA
import Derived.Test.YtamnacgclhaggaaPartT
import Derived.Test.YtamnacgclhaggaaCC
namespace Go.Proofs.Ytamnacgclhaggaa
open Go.ChangeShapes Go.WideShapes Go.ChangeAt Go.RowKit

section
variable {w : World} {A A' : Option Addr} {n c m d : Nat} {l t : List Int}
theorem cM_RingBack (h : Rw w A n c l) : Calls Try.prog 21 #[.slice A n c] w fun e w' => ∃ v, e = .returned (.tuple #[v, .bool (ringB l)]) ∧ NewR w' v (backR l) ∧ Below w.heap.size w w' :=
  (bkI_any A n c w.heap.size l w h.rd (Nat.le_refl _) h.big h.2.1 h.2.2.1).mono fun _ _ ⟨v, e1, ho, hb⟩ => ⟨v, e1, ho.newR (backR_length l), hb⟩
theorem cM_PairParts (h : Rw w A n c l) (h' : Rw w A' m d t) : Calls Try.prog 23 #[.slice A n c, .slice A' m d] w fun e w' => e = .returned (.bool (prtB l t)) ∧ Below w.heap.size w w' :=
  ppI_any A n c A' m d w.heap.size l t w h.rd h'.rd (Nat.le_refl _) h.big h'.big h.2.1 h.2.2.1 h'.2.1 h'.2.2.1
theorem cN_PairParts (h : Rw w A n c l) (h' : Rw w A' m d t) : Calls Try.prog 24 #[.slice A n c, .slice A' m d] w fun e w' => e = .returned (.bool (prtB l t)) ∧ Below w.heap.size w w' :=
  ppS_any A n c A' m d w.heap.size l t w h.rd h'.rd (Nat.le_refl _) h.big h'.big
theorem lit_rw (V : World) (l : List Int) (h7 : l.length ≤ 7) : Rw (V.alloc (.cells (ints l).toArray 3)) (some ⟨V.heap.size, 0, none⟩) l.length l.length l := by
  obtain ⟨A, n, c, e, hr⟩ := (RowV.lit V (Nat.le_refl _) l (by omega)).newR h7
  injection e with e1 e2 e3
  subst e1; subst e2; subst e3
  exact hr
end
end Go.Proofs.Ytamnacgclhaggaa
