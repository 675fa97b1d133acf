/- Rings of the same partings: contracts over rows at hand. -/
import Derived.Test.YtamnacgclhaggabPqS
import Derived.Test.YtamnacgclhaggabPsI
import Derived.Test.YtamnacgclhaggabLawM
namespace Go.Proofs.Ytamnacgclhaggab
open Go.ChangeShapes Go.WideShapes Go.ChangeAt Go.RowKit

section
variable {w : World} {A A' : Option Addr} {n c m d : Nat} {l t : List Int}
theorem cI_PairSame (h : Rw w A n c l) (h' : Rw w A' m d t) : Calls Try.prog 30 #[.slice A n c, .slice A' m d] w fun e w' => e = .returned (.bool (psB l t)) ∧ Below w.heap.size w w' :=
  psI_any A n c A' m d w.heap.size l t w h.rd h'.rd (Nat.le_refl _) h.big h'.big h.2.1 h.2.2.1 h'.2.1 h'.2.2.1
theorem cS_PairSame (h : Rw w A n c l) (h' : Rw w A' m d t) : Calls Try.prog 31 #[.slice A n c, .slice A' m d] w fun e w' => e = .returned (.bool (psB l t)) ∧ Below w.heap.size w w' :=
  psS_any A n c A' m d w.heap.size l t w h.rd h'.rd (Nat.le_refl _) h.big h'.big
end
theorem ps_told {l t : List Int} (h : psB l t = true) : ringB l = true ∧ backR l = backL l ∧ psB t l = true ∧ (same l t = true ∨ same (backL l) t = true) := by
  unfold psB at h
  rw [decide_eq_true_eq] at h
  obtain ⟨h1, h2, h3, h4, h5⟩ := h
  refine ⟨ring_yes h1, by rw [backR, if_pos h1], ?_, ?_⟩
  · unfold psB
    rw [decide_eq_true_eq]
    exact ⟨h2, h1, h3.symm, by omega, h5.symm⟩
  · rcases par_same h1 h2 h3 h5 with h | h
    · exact .inl (by simp [same, h])
    · exact .inr (by simp [same, h])
end Go.Proofs.Ytamnacgclhaggab
