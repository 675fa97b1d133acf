/- Points beside each other part no others. -/
import Derived.Test.YtamnacgclhaggaaPqM
import Derived.Test.YtamnacgclhaggaaBesI
import Derived.Test.YtamnacgclhaggaaDR
namespace Go.Proofs.Ytamnacgclhaggaa
open Go.ChangeShapes Go.WideShapes Go.ChangeAt Go.RowKit

theorem bes_told {l : List Int} {x y : Int} (h : bsB l x y = true) : bsB l y x = true ∧ ∀ z u, prtB l [x, y, z, u] = false := by
  simp only [bsB, Bool.and_eq_true] at h
  obtain ⟨⟨hr0, ht⟩, hb⟩ := h
  have hr : Ring l := by simpa [ringB] using hr0
  have ht' : Two (l.length : Int) [x, y] := by simpa [two] using ht
  obtain ⟨⟨hx0, hx1⟩, ⟨hy0, hy1⟩, hne⟩ := (two2 _ x y).1 ht'
  have h3 := hr.1.1
  have hx : x ∈ l := hr.1.has hx0 hx1
  have hy : y ∈ l := hr.1.has hy0 hy1
  have e1 := stepsB_back hx hy (by omega)
  have e2 := stepsB_back hy hx (by omega)
  have hb' : stepsI l x y = 1 ∨ stepsI l x y = (l.length : Int) - 1 := by
    unfold besB at hb
    simpa using hb
  refine ⟨?_, fun z u => ?_⟩
  · have t2 : two (l.length : Int) [y, x] = true := by
      unfold two
      rw [decide_eq_true_eq, two2]
      exact ⟨⟨hy0, hy1⟩, ⟨hx0, hx1⟩, hne.symm⟩
    have b2 : besB l y x = true := by
      unfold besB
      simp only [Bool.or_eq_true, decide_eq_true_eq]
      rcases hb' with h | h
      · exact .inr (e2.1 h)
      · exact .inl (e1.2 h)
    simp only [bsB, Bool.and_eq_true]
    exact ⟨⟨hr0, t2⟩, b2⟩
  · cases hp : prtB l [x, y, z, u] with
    | false => rfl
    | true =>
      obtain ⟨_, x', y', z', u', e, f, hpp⟩ := prt_told hp
      simp only [List.cons.injEq, and_true] at e
      obtain ⟨rfl, rfl, rfl, rfl⟩ := e
      obtain ⟨p1, p2, p3, p4, p5, p6, p7, p8, p9, p10⟩ := f.places
      rw [part_cyc f, bne_iff, cyc_iff, cyc_iff] at hpp
      unfold stepsI at hb'
      generalize l.idxOf x = i at *
      generalize l.idxOf y = j at *
      generalize l.idxOf z = k at *
      generalize l.idxOf u = m at *
      rw [emod_sub (by omega) (by omega) (by omega) (by omega)] at hb'
      split at hb' <;> omega
section
variable {w : World} {A : Option Addr} {n c : Nat} {L : List Int}
theorem cI_PairBesideQ (h : Rw w A n c L) (x y : Int) : Calls Try.prog 32 #[.slice A n c, .int .i64 x, .int .i64 y] w fun e w' => e = .returned (.bool (bsB L x y)) ∧ Below w.heap.size w w' :=
  bsI_any A n c w.heap.size L x y w h.rd (Nat.le_refl _) h.big h.2.1 h.2.2.1
theorem cS_PairBesideQ (h : Rw w A n c L) (x y : Int) : Calls Try.prog 33 #[.slice A n c, .int .i64 x, .int .i64 y] w fun e w' => e = .returned (.bool (bsB L x y)) ∧ Below w.heap.size w w' :=
  bsS_any A n c w.heap.size L x y w h.rd (Nat.le_refl _) h.big
end
end Go.Proofs.Ytamnacgclhaggaa
