/- Swaps: contracts over rows at hand. -/
import Derived.Test.YtamnacgclhaggabSwX
import Derived.Test.YtamnacgclhaggabLawD
import Derived.Test.YtamnacgclhaggabPR
namespace Go.Proofs.Ytamnacgclhaggab
open Go.ChangeShapes Go.WideShapes Go.ChangeAt Go.RowKit

section
variable {w : World} {A : Option Addr} {n c : Nat} {l : List Int}
theorem cI_SwapAt (h : Rw w A n c l) (x : Int) : Calls Try.prog 33 #[.slice A n c, .int .i64 x] w fun e w' => ∃ v, e = .returned (.tuple #[v, .bool (hasB l x)]) ∧ NewR w' v (swR l x) ∧ Below w.heap.size w w' :=
  (swI_any A n c w.heap.size l x w h.rd (Nat.le_refl _) h.big h.2.1 h.2.2.1).mono fun _ _ ⟨v, e1, ho, hb⟩ => ⟨v, e1, ho.newR (swR_length l x), hb⟩
theorem cS_SwapAt (h : Rw w A n c l) (x : Int) : Calls Try.prog 34 #[.slice A n c, .int .i64 x] w fun e w' => ∃ v, e = .returned (.tuple #[v, .bool (hasB l x)]) ∧ NewR w' v (swR l x) ∧ Below w.heap.size w w' :=
  (swS_any A n c w.heap.size l x w h.rd (Nat.le_refl _) h.big).mono fun _ _ ⟨v, e1, ho, hb⟩ => ⟨v, e1, ho.newR (swR_length l x), hb⟩
theorem cX_RingNext (h : Rw w A n c l) (x : Int) : Calls Try.prog 35 #[.slice A n c, .int .i64 x] w fun e w' => e = .returned (.tuple #[.int .i64 (nextR l x), .bool (hasB l x)]) ∧ Below w.heap.size w w' :=
  nxI_any A n c w.heap.size l x w h.rd (Nat.le_refl _) h.big h.2.1 h.2.2.1
end
/-- All that FnSwapAt asks of the maths. -/
theorem swap_told {l : List Int} {x : Int} (hk : hasB l x = true) : swR l x = swapL l x ∧ (nextR l x = nxt l x ∧ hasB (swapL l x) (nxt l x) = true ∧ swR (swapL l x) (nxt l x) = l) ∧ (twoB l (swapL l x) = true ∧ sdR l (swapL l x) = (l.length : Int) - 2) := by
  obtain ⟨hr, h0, hxl, hx⟩ := hasB_yes hk
  obtain ⟨hr', hl'⟩ := swap_ring hr hx
  have hy := nxt_mem (x := x) hr
  have bd := hr.1.2.2.1 _ hy
  have hb : hasB (swapL l x) (nxt l x) = true := by
    rw [hasB, ring_yes hr', Bool.true_and, decide_eq_true_eq, hl']
    exact bd
  have ht : TwoR l (swapL l x) := ⟨hr, hr', hl'.symm⟩
  refine ⟨by rw [swR, if_pos hk], ⟨by rw [nextR, if_pos hk]; rfl, hb, ?_⟩, twoYes ht, by rw [sd_two ht]; exact swap_differ hr hx⟩
  rw [swR, if_pos hb]
  exact swap_back hr hx
end Go.Proofs.Ytamnacgclhaggab
