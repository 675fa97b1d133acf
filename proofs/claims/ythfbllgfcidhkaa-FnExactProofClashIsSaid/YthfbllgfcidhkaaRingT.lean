/- ThreeRings and ThreeFirst of the model and of the program. -/
import Derived.Test.YthfbllgfcidhkaaAgree
import Derived.Test.YthfbllgfcidhkaaFirst
namespace Go.Proofs.Ythfbllgfcidhkaa
open Go.ChangeShapes Go.WideShapes Go.ChangeAt Go.RowKit

def rgR (q : Int) (L : List (List Int)) : Int := if Tel q L then ((agreeL q.toNat L).length : Nat) else 0
def fsR (q : Int) (L : List (List Int)) : List Int := if Tel q L then rowK (agreeL q.toNat L) 0 else []
def fsB (q : Int) (L : List (List Int)) : Bool := if Tel q L then decide (0 < (agreeL q.toNat L).length) else false
theorem agreeL_is (n : Nat) (L : List (List Int)) (h3 : 3 ≤ n) (h6 : n ≤ 6) : ∀ l ∈ agreeL n L, IsR n l := fun l hl => ringsL_is n h3 h6 l (List.mem_filter.1 hl).1
theorem fsR_length (q : Int) (L : List (List Int)) : (fsR q L).length ≤ 7 := by
  unfold fsR
  split
  · rename_i ht
    rcases Nat.eq_zero_or_pos (agreeL q.toNat L).length with h0 | h0
    · rw [List.eq_nil_of_length_eq_zero h0]; simp [rowK]
    · have := (agreeL_is q.toNat L (by have := ht.1; omega) (by have := ht.2.1; omega) _ (rowK_mem h0)).1
      have := ht.2.1
      omega
  · simp
theorem tel_nat {q : Int} {L : List (List Int)} (ht : Tel q L) : ∃ k : Nat, q = k ∧ 3 ≤ k ∧ k ≤ 6 := ⟨q.toNat, by have := ht.1; omega, by have := ht.1; omega, by have := ht.2.1; omega⟩

theorem GrowS.row {w : World} {B : Nat} {v : Value} {L : List (List Int)} (h : GrowS w B v L) {k : Nat} (hk : k < L.length) : ∃ g c A d, v = .slice (some ⟨g, 0, none⟩) L.length c ∧ w.cell? ⟨g, k, none⟩ = some (.slice A (rowK L k).length d) ∧ RowV w B (.slice A (rowK L k).length d) (rowK L k) := by
  obtain ⟨xs, h1, h2⟩ := h
  obtain ⟨vk, h3, h4⟩ := h2 k hk
  obtain ⟨A, d, rfl, _⟩ := h4.2
  rcases h1.2 with ⟨_, h0⟩ | ⟨g, cap, cur, rfl, hB, hg, hc, hm, hs, ht⟩
  · omega
  · refine ⟨g, cap, A, d, rfl, ?_, h4⟩
    rw [cell_of_row w g _ cur _ _ hg]
    rw [← ht, List.getElem?_take, if_pos (by omega)] at h3
    simpa using h3

end Go.Proofs.Ythfbllgfcidhkaa
