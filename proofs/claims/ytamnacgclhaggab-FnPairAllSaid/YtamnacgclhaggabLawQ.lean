/- Contracts of partings counted over rows at hand. -/
import Derived.Test.YtamnacgclhaggabDR
import Derived.Test.YtamnacgclhaggabPmT
namespace Go.Proofs.Ytamnacgclhaggab
open Go.ChangeShapes Go.WideShapes Go.ChangeAt Go.RowKit

section
variable {w : World} {A : Option Addr} {n c : Nat} {l : List Int}
theorem cI_PairMany (h : Rw w A n c l) : Calls Try.prog 16 #[.slice A n c] w fun e w' => e = .returned (.tuple #[.int .i64 (pmR l), .bool (pmB l)]) ∧ Below w.heap.size w w' :=
  pmI_any A n c w.heap.size l w h.rd (Nat.le_refl _) h.big h.2.1 h.2.2.1
end
theorem pm_told {l : List Int} (h : pmB l = true) : Ring l ∧ 4 ≤ l.length := by
  unfold pmB at h
  simp only [Bool.and_eq_true, decide_eq_true_eq] at h
  exact ⟨by simpa [ringB] using h.1, h.2⟩
end Go.Proofs.Ytamnacgclhaggab
