/- Contracts of arcs over rows at hand. -/
import Derived.Test.YtheoepbcejlncaaArJ
import Derived.Test.YtheoepbcejlncaaRw
import Derived.Test.YtheoepbcejlncaaArT
namespace Go.Proofs.Ytheoepbcejlncaa
open Go.ChangeShapes Go.WideShapes Go.ChangeAt Go.RowKit

section
variable {w : World} {A : Option Addr} {n c : Nat} {l : List Int}
theorem cI_ArcIs (h : Rw w A n c l) (s : Int) : Calls Try.prog 13 #[.slice A n c, .int .i64 s] w fun e w' => e = .returned (.bool (arcB l s)) ∧ Below w.heap.size w w' :=
  isI_any A n c w.heap.size l s w h.rd (Nat.le_refl _) h.big h.2.1 h.2.2.1
theorem cS_ArcIs (h : Rw w A n c l) (s : Int) : Calls Try.prog 14 #[.slice A n c, .int .i64 s] w fun e w' => e = .returned (.bool (arcB l s)) ∧ Below w.heap.size w w' :=
  isS_law A n c w.heap.size l s w h.rd (Nat.le_refl _) h.big
theorem cI_ArcRuns (h : Rw w A n c l) (s : Int) : Calls Try.prog 16 #[.slice A n c, .int .i64 s] w fun e w' => e = .returned (.tuple #[.int .i64 (runR l s), .bool (setB l s)]) ∧ Below w.heap.size w w' :=
  runsI_any A n c w.heap.size l s w h.rd (Nat.le_refl _) h.big h.2.1 h.2.2.1
theorem cS_ArcRuns (h : Rw w A n c l) (s : Int) : Calls Try.prog 32 #[.slice A n c, .int .i64 s] w fun e w' => e = .returned (.tuple #[.int .i64 (runR l s), .bool (setB l s)]) ∧ Below w.heap.size w w' :=
  runsS_law A n c w.heap.size l s w h.rd (Nat.le_refl _) h.big
theorem cI_Back7 (h : Rw w A n c l) : Calls Try.prog 15 #[.slice A n c] w fun e w' => ∃ v, e = .returned (.tuple #[v, .bool (ringB l)]) ∧ NewR w' v (backR l) ∧ Below w.heap.size w w' :=
  (bkI_any A n c w.heap.size l w h.rd (Nat.le_refl _) h.big h.2.1 h.2.2.1).mono fun _ _ ⟨v, e1, ho, hb⟩ => ⟨v, e1, ho.newR (backR_length l), hb⟩
end
theorem arc_set7 {l : List Int} {s : Int} (h : arcB l s = true) : SetL l s ∧ runN (hasN s.toNat) l = 1 := by
  simpa [arcB, setB] using h
/-- What the laws reckon with: as many arcs in what a set leaves, and in the ring gone round the other way. -/
theorem runs_told {l : List Int} {s : Int} (h : SetL l s) : ∃ k : Nat, s = (k : Int) ∧ k < 2 ^ l.length ∧ setB l (((2 ^ l.length - 1 - k : Nat)) : Int) = true ∧ runR l s = (runN (hasN k) l : Int) ∧ runR l ((2 ^ l.length - 1 - k : Nat) : Int) = (runN (hasN k) l : Int) ∧ arcB l s = decide (runN (hasN k) l = 1) ∧ arcB l ((2 ^ l.length - 1 - k : Nat) : Int) = decide (runN (hasN k) l = 1) ∧ 2 * runN (hasN k) l ≤ l.length ∧ (SetL (backL l) s ∧ arcB (backL l) s = decide (runN (hasN k) l = 1)) := by
  obtain ⟨k, rfl, hk, _⟩ := h.nat
  obtain ⟨_, h2, _⟩ := set_comp h
  obtain ⟨r1, r2⟩ := run_comp h.1 hk
  have hbk : SetL (backL l) (k : Int) := ⟨backL_ring' h.1, h.2.1, by rw [backL_length]; exact h.2.2⟩
  refine ⟨k, rfl, hk, set_yes h2, ?_, ?_, ?_, ?_, r2, hbk, ?_⟩
  · rw [runR, set_yes h, Int.toNat_natCast]; rfl
  · rw [runR, set_yes h2, Int.toNat_natCast, r1]; rfl
  · rw [arcB, set_yes h, Int.toNat_natCast]; rfl
  · rw [arcB, set_yes h2, Int.toNat_natCast, r1]; rfl
  · rw [arcB, set_yes hbk, Int.toNat_natCast, run_back h.1.1.2.1]; rfl
end Go.Proofs.Ytheoepbcejlncaa
