/- Rings a swap away: contracts over rows at hand. -/
import Derived.Test.YtamnacgclhaggabSwY
import Derived.Test.YtamnacgclhaggabRwS
namespace Go.Proofs.Ytamnacgclhaggab
open Go.ChangeShapes Go.WideShapes Go.ChangeAt Go.RowKit

section
variable {w : World} {A A' : Option Addr} {n c m d : Nat} {l t : List Int}
theorem cI_SwapNear (h : Rw w A n c l) : Calls Try.prog 38 #[.slice A n c] w fun e w' => ∃ v, e = .returned (.tuple #[v, .bool (ringB l)]) ∧ NewS w' v (snR l) ∧ Below w.heap.size w w' :=
  (snI_any A n c w.heap.size l w h.rd (Nat.le_refl _) h.big h.2.1 h.2.2.1).mono fun _ _ ⟨v, e1, ho, hb⟩ => ⟨v, e1, ho.newS (snR_tot l), hb⟩
theorem cS_SwapNear (h : Rw w A n c l) : Calls Try.prog 39 #[.slice A n c] w fun e w' => ∃ v, e = .returned (.tuple #[v, .bool (ringB l)]) ∧ NewS w' v (snR l) ∧ Below w.heap.size w w' :=
  (snS_any A n c w.heap.size l w h.rd (Nat.le_refl _) h.big).mono fun _ _ ⟨v, e1, ho, hb⟩ => ⟨v, e1, newS_of ho (snR_tot l), hb⟩
theorem cI_SwapDifferR (h : Rw w A n c l) (h' : Rd w w.heap.size A' m t) (hm : m ≤ 1048576) (hmd : m ≤ d) (hdm : d ≤ 9223372036854775807) : Calls Try.prog 36 #[.slice A n c, .slice A' m d] w fun e w' => e = .returned (.tuple #[.int .i64 (sdR l t), .bool (twoB l t)]) ∧ Below w.heap.size w w' :=
  sdI_any A n c A' m d w.heap.size l t w h.rd h' (Nat.le_refl _) h.big hm h.2.1 h.2.2.1 hmd hdm
theorem cI_RingNumberR (h' : Rd w w.heap.size A' m t) (hm : m ≤ 1048576) (hmd : m ≤ d) (hdm : d ≤ 9223372036854775807) : Calls Try.prog 17 #[.slice A' m d] w fun e w' => e = .returned (.tuple #[.int .i64 (numR t), .bool (ringB t)]) ∧ Below w.heap.size w w' :=
  nuI_any A' m d w.heap.size t w h' (Nat.le_refl _) hm hmd hdm
end
/-- All that FnNear asks of the maths. -/
theorem near_told {l : List Int} (hk : ringB l = true) : (∀ k, k < (snR l).length → (rowK (snR l) k).length = l.length ∧ twoB l (rowK (snR l) k) = true ∧ sdR l (rowK (snR l) k) = (l.length : Int) - 2 ∧ ringB (rowK (snR l) k) = true) ∧ (∀ k, k + 1 < (snR l).length → numR (rowK (snR l) k) < numR (rowK (snR l) (k + 1))) ∧ (snR l).length = if l.length = 3 then 1 else l.length := by
  have hr : Ring l := by simpa [ringB] using hk
  have e : snR l = (nearK l).map (byL l.length) := by rw [snR, if_pos hr]; rfl
  refine ⟨fun k h => ?_, fun k h => ?_, by rw [e, List.length_map]; exact near_count hr⟩
  · obtain ⟨h1, h2, h3, h4⟩ := near_row hr k h
    exact ⟨h1.2.2.symm, twoYes h1, h2, h4⟩
  · rw [(near_row hr k (by omega)).2.2.1, (near_row hr (k + 1) h).2.2.1]
    have hl : (snR l).length = (nearK l).length := by rw [e, List.length_map]
    have := List.pairwise_iff_getElem.1 (near_up l) k (k + 1) (by omega) (by omega) (by omega)
    simpa [List.getD, (by omega : k < (nearK l).length), (by omega : k + 1 < (nearK l).length)] using this
end Go.Proofs.Ytamnacgclhaggab
