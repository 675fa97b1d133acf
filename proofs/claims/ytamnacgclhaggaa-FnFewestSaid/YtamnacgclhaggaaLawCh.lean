/- Chords of a ring: contracts over rows at hand. -/
import Derived.Test.YtamnacgclhaggaaPqN
namespace Go.Proofs.Ytamnacgclhaggaa
open Go.ChangeShapes Go.WideShapes Go.ChangeAt Go.RowKit

section
variable {w : World} {A A' : Option Addr} {n c m d : Nat} {l : List Int} {L : List (List Int)}
theorem cI_PairChords (h : Rw w A n c l) (h' : RwS w A' m d L) : Calls Try.prog 35 #[.slice A n c, .slice A' m d] w fun e w' => e = .returned (.tuple #[.int .i64 (pcR l L), .bool (pcB l L)]) ∧ Below w.heap.size w w' :=
  pcI_any A n c A' m d w.heap.size l L w h.rd h'.rd (Nat.le_refl _) h.big h'.1.2 h.2.1 h.2.2.1
theorem cS_PairChords (h : Rw w A n c l) (h' : RwS w A' m d L) : Calls Try.prog 36 #[.slice A n c, .slice A' m d] w fun e w' => e = .returned (.tuple #[.int .i64 (pcR l L), .bool (pcB l L)]) ∧ Below w.heap.size w w' :=
  pcS_any A n c A' m d w.heap.size l L w h.rd h'.rd (Nat.le_refl _) h.big h'.1.2
theorem cI_PairFewest (h' : RwS w A' m d L) (q : Int) : Calls Try.prog 37 #[.int .i64 q, .slice A' m d] w fun e w' => ∃ v, e = .returned (.tuple #[.int .i64 (feV q L), v, .bool (feB q L)]) ∧ NewG w' v (feL q L) ∧ Below w.heap.size w w' :=
  (feI_any A' m d w.heap.size q L w h'.rd (Nat.le_refl _) h'.1.2).mono fun _ _ ⟨v, e1, ho, hb⟩ => ⟨v, e1, ho.newG (feL_length q L), hb⟩
end
/-- All that FnChords asks of the maths. -/
theorem chords_told {l : List Int} {L : List (List Int)} (h : pcB l L = true) : ∃ o : Nat, pcR l L = (o : Int) ∧ 2 * o ≤ L.length * (L.length - 1) ∧ L.length ≤ 8 ∧ (ringB l = true ∧ backR l = backL l) ∧ (pcR (backL l) L = (o : Int) ∧ pcB (backL l) L = true) ∧ (feB l.length L = true → feV l.length L ≤ (o : Int)) := by
  have h' := h
  unfold pcB at h'
  rw [Bool.and_eq_true] at h'
  have hr : Ring l := by simpa [ringB] using h'.1
  have hc := cho_yes h'.2
  have hb : pcB (backL l) L = true := by
    unfold pcB
    rw [ring_yes (backL_ring hr), backL_length, Bool.true_and]
    exact h'.2
  refine ⟨chN l L, by rw [pcR, if_pos h], cout_tri _ _, hc.1, ⟨h'.1, by rw [backR, if_pos hr]⟩, ⟨by rw [pcR, if_pos hb, ch_back hr], hb⟩, fun hf => ?_⟩
  rw [feV, if_pos hf, Int.toNat_natCast]
  obtain ⟨n, hn, _, h6, _⟩ := fe_nat hf
  exact few_least hr rfl (by omega)
end Go.Proofs.Ytamnacgclhaggaa
