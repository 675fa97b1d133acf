/- What differs: contracts over rows at hand. -/
import Derived.Test.YtamnacgclhaggabSdM
import Derived.Test.YtamnacgclhaggabSwG
import Derived.Test.YtamnacgclhaggabLawM
namespace Go.Proofs.Ytamnacgclhaggab
open Go.ChangeShapes Go.WideShapes Go.ChangeAt Go.RowKit

section
variable {w : World} {A A' : Option Addr} {n c m d : Nat} {l t : List Int}
theorem cI_SwapDiffer (h : Rw w A n c l) (h' : Rw w A' m d t) : Calls Try.prog 36 #[.slice A n c, .slice A' m d] w fun e w' => e = .returned (.tuple #[.int .i64 (sdR l t), .bool (twoB l t)]) ∧ Below w.heap.size w w' :=
  sdI_any A n c A' m d w.heap.size l t w h.rd h'.rd (Nat.le_refl _) h.big h'.big h.2.1 h.2.2.1 h'.2.1 h'.2.2.1
theorem cS_SwapDiffer (h : Rw w A n c l) (h' : Rw w A' m d t) : Calls Try.prog 41 #[.slice A n c, .slice A' m d] w fun e w' => e = .returned (.tuple #[.int .i64 (sdR l t), .bool (twoB l t)]) ∧ Below w.heap.size w w' :=
  sdS_any A n c A' m d w.heap.size l t w h.rd h'.rd (Nat.le_refl _) h.big h'.big
end
theorem two_told {l t : List Int} (h : twoB l t = true) : TwoR l t := by simpa [twoB] using h
theorem sd_two {l t : List Int} (h : TwoR l t) : sdR l t = difX l t l.length := by rw [sdR, if_pos h]
/-- All that FnDiffer asks. -/
theorem differ_told {l t : List Int} (h : TwoR l t) : (0 ≤ sdR l t ∧ sdR l t ≤ 343) ∧ (twoB t l = true ∧ sdR t l = sdR l t) ∧ (twoB l (backL t) = true ∧ sdR l (backL t) = cntT l.length - sdR l t) ∧ (sdR l t = 0 ↔ l = t) := by
  obtain ⟨ha, hb, hl⟩ := h
  have h7 := ha.1.2.1
  have t1 : TwoR l t := ⟨ha, hb, hl⟩
  have t2 : TwoR t l := ⟨hb, ha, hl.symm⟩
  have t3 : TwoR l (backL t) := ⟨ha, backL_ring hb, by rw [backL_length]; exact hl⟩
  rw [sd_two t1, sd_two t2, sd_two t3]
  refine ⟨difX_bd l t l.length h7 h7, ⟨twoYes t2, difX_swap hl⟩, ⟨twoYes t3, ?_⟩, sd_zero ha hb hl⟩
  have := difX_add (a := l) (b := t) (c := backL t) fun x y z h1 h2 h3 => dif_back ha hb hl h1 h2 h3
  omega
end Go.Proofs.Ytamnacgclhaggab
