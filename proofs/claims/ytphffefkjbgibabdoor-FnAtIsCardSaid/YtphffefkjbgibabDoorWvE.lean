/- The program's reading of a list of lists, each one a part. -/
import Derived.Test.YtphffefkjbgibabDoorWvX
import Derived.Test.YtphffefkjbgibabDoorPE
namespace Go.Proofs.YtphffefkjbgibabDoor
open Go.ChangeShapes Go.WideShapes Go.ChangeAt Go.RowKit

theorem part_info : (Tryd.prog.info? 41).map (fun i => (i.zero, i.size, i.bytes)) = some (some (.slice none 0 0), 1, 24) := by kernel_rfl
/-- A slice of parts of the call's own. -/
def PrtS (w : World) (B : Nat) (v : Value) (L : List (List Int)) : Prop :=
  ∃ xs : List Value, w.ownsRow B 41 1 v L.length xs ∧ ∀ k, k < L.length → ∃ vk, xs[k]? = some vk ∧ RowV w B vk (rowK L k)
section
variable {w w' : World} {B : Nat} {v : Value} {L : List (List Int)}
theorem PrtS.slice (h : PrtS w B v L) : ∃ A c, v = .slice A L.length c ∧ L.length ≤ c ∧ c ≤ 9223372036854775807 := by
  obtain ⟨xs, h1, _⟩ := h
  rcases h1.2 with ⟨e, h0⟩ | ⟨g, cap, cur, e, _, _, h2, h3, _⟩
  · exact ⟨none, 0, by rw [e, h0], by omega, by omega⟩
  · exact ⟨_, cap, e, h2, by unfold maxLen at h3; omega⟩
theorem PrtS.rd {A : Option Addr} {n c : Nat} (h : PrtS w B (.slice A n c) L) : n = L.length ∧ RdS w w.heap.size A n L := by
  obtain ⟨xs, h1, h2⟩ := h
  rcases h1.2 with ⟨e, h0⟩ | ⟨g, cap, cur, e, hB, hg, hc, hm, hs, ht⟩
  · injection e with e1 e2 e3
    subst e1; subst e2
    rw [List.eq_nil_of_length_eq_zero h0]
    exact ⟨rfl, RdS.nil⟩
  · injection e with e1 e2 e3
    subst e1; subst e2; subst e3
    refine ⟨rfl, rfl, fun _ => ⟨g, 0, rfl, (Array.getElem?_eq_some_iff.1 hg).1, fun k hk => ?_⟩⟩
    obtain ⟨vk, h3, h4, A, d, rfl, h5, h6⟩ := h2 k hk
    refine ⟨A, d, ?_, h4.rd.2, h5, h6⟩
    rw [Nat.zero_add, cell_of_row w g _ cur _ _ hg]
    rw [← ht, List.getElem?_take, if_pos (by omega)] at h3
    simpa using h3
theorem PrtS.nil (w : World) (B : Nat) : PrtS w B (.slice none 0 0) [] := ⟨[], ⟨by simp, .inl ⟨rfl, rfl⟩⟩, fun k hk => absurd hk (by simp)⟩
end
theorem part_oneCell {w : World} {B : Nat} {v : Value} {l : List Int} (h : RowV w B v l) : v.oneCell' = true := by
  obtain ⟨_, A, c, rfl, _⟩ := h
  rfl
/-- The first k parts, nothing behind. -/
def firstV (vs : List Value) (m : Nat) : List Value := vs ++ List.replicate (m - vs.length) (.slice none 0 0)
theorem firstV_set (vs : List Value) (m : Nat) (v : Value) (h : vs.length < m) : (firstV vs m).set vs.length v = firstV (vs ++ [v]) m := by
  unfold firstV
  rw [List.set_append_right _ _ (by omega), Nat.sub_self]
  obtain ⟨d, hd⟩ : ∃ d, m - vs.length = d + 1 := ⟨m - vs.length - 1, by omega⟩
  rw [hd, List.length_append, List.length_singleton, show m - (vs.length + 1) = d by omega, List.replicate_succ, List.set_cons_zero, List.append_assoc]
  rfl
theorem firstV_get (vs : List Value) (m : Nat) (h : vs.length < m) : (firstV vs m)[vs.length]? = some (.slice none 0 0) := by
  unfold firstV
  rw [List.getElem?_append_right (by omega)]
  simp [List.getElem?_replicate]
  omega
theorem firstV_full (vs : List Value) : firstV vs vs.length = vs := by simp [firstV]

end Go.Proofs.YtphffefkjbgibabDoor
