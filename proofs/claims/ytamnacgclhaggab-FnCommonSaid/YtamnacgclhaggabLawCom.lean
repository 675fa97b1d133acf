/- Arcs of two rings: contracts over rows at hand. -/
import Derived.Test.YtamnacgclhaggabArX
import Derived.Test.YtamnacgclhaggabArD
import Derived.Test.YtamnacgclhaggabLawM
namespace Go.Proofs.Ytamnacgclhaggab
open Go.ChangeShapes Go.WideShapes Go.ChangeAt Go.RowKit

/-- A row at hand, of any length. -/
def RwB (w : World) (A : Option Addr) (n : Nat) (l : List Int) : Prop := Rd w w.heap.size A n l ∧ n ≤ 1048576
def NewB (w : World) (v : Value) (l : List Int) : Prop := ∃ A n c, v = .slice A n c ∧ RwB w A n l
section
variable {w w' : World} {A A' : Option Addr} {n c m d B : Nat} {l t : List Int} {v : Value}
theorem RwB.step (h : RwB w A n l) (k : Below w.heap.size w w') : RwB w' A n l := ⟨(h.1.below k).more k.size, h.2⟩
theorem sameB_any (h : RwB w A n l) (h' : RwB w A' m t) : Calls Try.prog 21 #[.slice A n c, .slice A' m d] w fun e w' => e = .returned (.bool (same l t)) ∧ Below w.heap.size w w' :=
  (sameInts_drew A A' n m c d l t w.heap.size w h.1 h'.1 h.2 h'.2).mono fun e w' ⟨e1, q, e2⟩ => ⟨e1, by subst e2; exact below_drewN (Below.refl _ _) q⟩
theorem cI_ArcCommon (h : Rw w A n c l) (h' : Rw w A' m d t) : Calls Try.prog 46 #[.slice A n c, .slice A' m d] w fun e w' => ∃ v, e = .returned (.tuple #[v, .bool (twoB l t)]) ∧ NewB w' v (comR l t) ∧ Below w.heap.size w w' :=
  (acI_any A n c A' m d w.heap.size l t w h.rd h'.rd (Nat.le_refl _) h.big h'.big h.2.1 h.2.2.1 h'.2.1 h'.2.2.1).mono fun _ _ ⟨v, e1, ho, hb⟩ => ⟨v, e1, by
    obtain ⟨A2, c2, ev⟩ := ho.slice
    subst ev
    exact ⟨A2, _, c2, rfl, ho.rd.2, by have := comR_len l t; omega⟩, hb⟩
theorem cS_ArcCommon (h : Rw w A n c l) (h' : Rw w A' m d t) : Calls Try.prog 47 #[.slice A n c, .slice A' m d] w fun e w' => ∃ v, e = .returned (.tuple #[v, .bool (twoB l t)]) ∧ NewB w' v (comR l t) ∧ Below w.heap.size w w' :=
  (acS_any A n c A' m d w.heap.size l t w h.rd h'.rd (Nat.le_refl _) h.big h'.big).mono fun _ _ ⟨v, e1, ho, hb⟩ => ⟨v, e1, by
    obtain ⟨A2, c2, ev⟩ := ho.slice
    subst ev
    exact ⟨A2, _, c2, rfl, ho.rd.2, by have := comR_len l t; omega⟩, hb⟩
end
theorem com_told {l t : List Int} (h : twoB l t = true) : (twoB t l = true ∧ comR t l = comR l t) ∧ (ringB l = true ∧ backR l = backL l) ∧ (4 ≤ l.length → ((comR l t).length = l.length * (l.length - 1) ↔ (same l t || same (backL l) t) = true)) := by
  have hT : TwoR l t := by simpa [twoB] using h
  have hT' : TwoR t l := ⟨hT.2.1, hT.1, hT.2.2.symm⟩
  refine ⟨⟨twoYes hT', ?_⟩, ⟨ring_yes hT.1, by rw [backR, if_pos hT.1]⟩, fun h4 => ?_⟩
  · rw [comR, if_pos hT', comR, if_pos hT]; exact com_swap hT.2.2
  · rw [comR, if_pos hT, com_full hT.1 hT.2.1 hT.2.2 h4]
    simp [same]
end Go.Proofs.Ytamnacgclhaggab
