/- All partings of a ring: contracts over rows at hand. -/
import Derived.Test.YtamnacgclhaggabPqS
import Derived.Test.YtamnacgclhaggabPlS
import Derived.Test.YtamnacgclhaggabLawM
import Derived.Test.YtamnacgclhaggabLawQ
import Derived.Test.YtamnacgclhaggabRwS
import Derived.Test.YtamnacgclhaggabPR
import Derived.Test.YtamnacgclhaggabBy
import Derived.Test.YtamnacgclhaggabNumT
import Derived.Test.YtamnacgclhaggabRank
namespace Go.Proofs.Ytamnacgclhaggab
open Go.ChangeShapes Go.WideShapes Go.ChangeAt Go.RowKit

section
variable {w : World} {A : Option Addr} {n c : Nat} {l : List Int}
theorem cI_PairAll (h : Rw w A n c l) : Calls Try.prog 13 #[.slice A n c] w fun e w' => ∃ v, e = .returned (.tuple #[v, .bool (ringB l)]) ∧ NewS w' v (paR l) ∧ Below w.heap.size w w' :=
  (paI_any A n c w.heap.size l w h.rd (Nat.le_refl _) h.big h.2.1 h.2.2.1).mono fun _ _ ⟨v, e1, ho, hb⟩ => ⟨v, e1, ho.newS (paR_tot l), hb⟩
theorem cS_PairAll (h : Rw w A n c l) : Calls Try.prog 14 #[.slice A n c] w fun e w' => ∃ v, e = .returned (.tuple #[v, .bool (ringB l)]) ∧ NewS w' v (paR l) ∧ Below w.heap.size w w' :=
  (paS_any A n c w.heap.size l w h.rd (Nat.le_refl _) h.big).mono fun _ _ ⟨v, e1, ho, hb⟩ => ⟨v, e1, newS_of ho (paR_tot l), hb⟩
theorem cX_RingNumber (h : Rw w A n c l) : Calls Try.prog 17 #[.slice A n c] w fun e w' => e = .returned (.tuple #[.int .i64 (numR l), .bool (ringB l)]) ∧ Below w.heap.size w w' :=
  nuI_any A n c w.heap.size l w h.rd (Nat.le_refl _) h.big h.2.1 h.2.2.1
theorem cX_RingCount (x : Int) (w : World) : Calls Try.prog 18 #[.int .i64 x] w fun e w' => e = .returned (.tuple #[.int .i64 (rcount x), .bool (decide (3 ≤ x) && decide (x ≤ 7))]) ∧ Below w.heap.size w w' :=
  (countI_any x w).mono fun _ _ ⟨e1, e2⟩ => ⟨e1, by subst e2; exact Below.refl _ _⟩
theorem cX_RingBy (x : Int) (y : Int) (w : World) : Calls Try.prog 19 #[.int .i64 x, .int .i64 y] w fun e w' => ∃ v, e = .returned (.tuple #[v, .bool (byB x y)]) ∧ NewR w' v (byR x y) ∧ Below w.heap.size w w' :=
  (byIm_any x y w).mono fun _ _ ⟨v, e1, ho, hb⟩ => ⟨v, e1, ho.newR (byR_length x y), hb⟩
end
theorem pa_short {l : List Int} (hr : Ring l) (h : l.length < 4) : (paR l).length = 0 := by
  rw [pa_yes hr]
  have := many_count hr
  have h3 := hr.1.1
  rw [show l.length = 3 by omega] at this
  omega
/-- All that FnPairAll asks of the maths. -/
theorem pa_told {l : List Int} (hr : Ring l) (h4 : 4 ≤ l.length) : ∃ k j cc : Int, ∃ b : List Int, numR l = k ∧ rcount l.length = cc ∧ (0 ≤ k ∧ k < cc ∧ 6 ≤ cc ∧ cc ≤ 720) ∧ (k + 1).tmod cc = j ∧ byB l.length j = true ∧ byR l.length j = b ∧ ringB b = true ∧ (sameR (paR b) (paR l) = true → same b (backL l) = true) ∧ pmB l = true ∧ pmR l = ((paR l).length : Nat) ∧ backR l = backL l := by
  have h7 := hr.1.2.1
  obtain ⟨k0, k1, k2⟩ := ring_num hr
  obtain ⟨p1, p2⟩ := pm_yes hr h4
  have hcc : 6 ≤ facN (l.length - 1) ∧ facN (l.length - 1) ≤ 720 := by
    obtain h | h | h | h : l.length = 4 ∨ l.length = 5 ∨ l.length = 6 ∨ l.length = 7 := by omega
    all_goals rw [h]; decide
  generalize hk : numP l l.length = k at *
  generalize hc : facN (l.length - 1) = cc at *
  have hj : ∃ j, (k + 1).tmod cc = j ∧ 0 ≤ j ∧ j < cc ∧ j ≠ k := by
    refine ⟨_, rfl, ?_⟩
    rw [Int.tmod_eq_emod_of_nonneg (by omega)]
    refine ⟨Int.emod_nonneg _ (by omega), Int.emod_lt_of_pos _ (by omega), ?_⟩
    by_cases h : k + 1 = cc
    · rw [h, Int.emod_self]; omega
    · rw [Int.emod_eq_of_lt (by omega) (by omega)]; omega
  obtain ⟨j, j0, j1, j2, j3⟩ := hj
  have hb : byB l.length j = true := by
    rw [byB, decide_eq_true_eq]
    rw [show ((l.length : Int)).toNat = l.length by omega, hc]
    omega
  have hbe : byR l.length j = byL l.length j := by
    rw [byR, if_pos hb, show ((l.length : Int)).toNat = l.length by omega]
  obtain ⟨r1, r2⟩ := by_tell l.length j (by omega) h7 j1 (by rw [hc]; exact j2)
  refine ⟨k, j, cc, byL l.length j, by rw [numR, if_pos hr]; exact hk, ?_, ⟨k0, k1, hcc.1, hcc.2⟩, j0, hb, hbe, ring_yes r1, fun h => ?_, p1, by rw [p2, pa_yes hr], by rw [backR, if_pos hr]⟩
  · rw [rcount, if_pos (by omega), show ((l.length : Int)).toNat = l.length by omega]; exact hc
  · rw [pa_yes r1, pa_yes hr] at h
    have e : allP l = allP (byL l.length j) := by simpa [sameR, eq_comm] using h
    rcases par_same hr r1 (byL_length _ _).symm e with h | h
    · exact absurd (by rw [← r2, ← h]; exact hk) j3
    · simp [same, h]
end Go.Proofs.Ytamnacgclhaggab
