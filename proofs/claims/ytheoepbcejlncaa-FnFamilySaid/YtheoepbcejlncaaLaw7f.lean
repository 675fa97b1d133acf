/- Contracts of families over rows at hand. -/
import Derived.Test.YtheoepbcejlncaaArF
import Derived.Test.YtheoepbcejlncaaRw
namespace Go.Proofs.Ytheoepbcejlncaa
open Go.ChangeShapes Go.WideShapes Go.ChangeAt Go.RowKit

section
variable {w : World} {A : Option Addr} {n c : Nat} {L : List Int}
theorem cI_ArcFamily (h : Rw w A n c L) (x : Int) : Calls Try.prog 22 #[.int .i64 x, .slice A n c] w fun e w' => e = .returned (.bool (famB x L)) ∧ Below w.heap.size w w' :=
  famI_any A n c w.heap.size x L w h.rd (Nat.le_refl _) h.big h.2.1 h.2.2.1
theorem cS_ArcFamily (h : Rw w A n c L) (x : Int) : Calls Try.prog 23 #[.int .i64 x, .slice A n c] w fun e w' => e = .returned (.bool (famB x L)) ∧ Below w.heap.size w w' :=
  famS_law A n c w.heap.size x L w h.rd (Nat.le_refl _) h.big
theorem Rw.tail {b o : Nat} (h : Rw w (some ⟨b, o, none⟩) n c L) (hn : 0 < n) : Rw w (some ⟨b, o + 1, none⟩) (n - 1) (c - 1) (L.drop 1) := by
  have hl := h.len
  obtain ⟨h1, h2, h3, h4⟩ := h
  refine ⟨⟨by rw [List.length_drop, hl], fun hn1 => ?_⟩, by omega, by omega, by omega⟩
  obtain ⟨b', o', e, hb, hc⟩ := h1.at_ hn
  injection e with e
  injection e with e1 e2 _
  subst e1; subst e2
  refine ⟨b, o + 1, rfl, hb, fun k hk => ?_⟩
  have := hc (k + 1) (by omega)
  rw [show o + 1 + k = o + (k + 1) by omega, this]
  simp [List.getD]
end
theorem Rw.none0 (w : World) (A : Option Addr) : Rw w A 0 0 [] := ⟨⟨rfl, fun h => absurd h (by omega)⟩, by omega, by omega, by omega⟩
/-- What sets leave, of all points G. -/
def compL (G : Int) (L : List Int) : List Int := L.map fun s => G - s
theorem compL_snoc (G : Int) (L : List Int) (k : Nat) (hk : k < L.length) : compL G (L.take k) ++ [G - L.getD k 0] = compL G (L.take (k + 1)) := by
  unfold compL
  rw [List.take_succ_eq_append_getElem hk, List.map_append]
  simp [List.getD, hk]
theorem fam_told {x : Int} {L : List Int} (h : famB x L = true) : ∃ (z : Nat) (G : Int), x = (z : Int) ∧ ((z = 3 ∧ G = 7) ∨ (z = 4 ∧ G = 15) ∨ (z = 5 ∧ G = 31) ∨ (z = 6 ∧ G = 63)) ∧ (∀ s ∈ L, 1 ≤ s ∧ s ≤ G - 1) ∧ 7 ≤ G ∧ G ≤ 63 ∧ famB x (compL G L) = true ∧ famB x (L.drop 1) = true ∧ L.length ≤ 10 := by
  have hf : Fam x L := of_decide_eq_true h
  obtain ⟨h36, h10, hs⟩ := hf
  obtain ⟨z, rfl⟩ : ∃ z : Nat, x = (z : Int) := ⟨x.toNat, by omega⟩
  rw [Int.toNat_natCast] at hs
  have hz : ∃ G : Int, ((z = 3 ∧ G = 7) ∨ (z = 4 ∧ G = 15) ∨ (z = 5 ∧ G = 31) ∨ (z = 6 ∧ G = 63)) ∧ G = 2 ^ z - 1 := by
    have hz' : z = 3 ∨ z = 4 ∨ z = 5 ∨ z = 6 := by omega
    obtain rfl | rfl | rfl | rfl := hz'
    · exact ⟨7, by omega, by decide⟩
    · exact ⟨15, by omega, by decide⟩
    · exact ⟨31, by omega, by decide⟩
    · exact ⟨63, by omega, by decide⟩
  obtain ⟨G, hG, e2⟩ := hz
  have hb : ∀ s ∈ L, 1 ≤ s ∧ s ≤ G - 1 := fun s hm => by
    have := hs s hm
    simp only [okS, Bool.and_eq_true, decide_eq_true_eq] at this
    omega
  refine ⟨z, G, rfl, hG, hb, by omega, by omega, ?_, ?_, h10⟩
  · refine fam_yes ⟨h36, by rw [compL, List.length_map]; exact h10, fun s hm => ?_⟩
    simp only [compL, List.mem_map] at hm
    obtain ⟨t, ht, rfl⟩ := hm
    have := hb t ht
    rw [Int.toNat_natCast, okS]
    simp only [Bool.and_eq_true, decide_eq_true_eq]
    omega
  · refine fam_yes ⟨h36, by rw [List.length_drop]; omega, fun s hm => ?_⟩
    rw [Int.toNat_natCast]
    exact hs s (List.mem_of_mem_drop hm)
end Go.Proofs.Ytheoepbcejlncaa
