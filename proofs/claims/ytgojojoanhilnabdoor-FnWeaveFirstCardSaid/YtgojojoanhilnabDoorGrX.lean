/- A slice of slices of the call's own that grows by rows of their own. -/
import Derived.Test.YtgojojoanhilnabDoorPE
namespace Go.Proofs.YtgojojoanhilnabDoor
open Go.ChangeShapes Go.WideShapes Go.ChangeAt Go.RowKit

theorem ownsRow_less {w : World} {B B' : Nat} {e : TypeId} {m k : Nat} {v : Value} {xs : List Value} (h : w.ownsRow B e m v k xs) (hB : B' ≤ B) : w.ownsRow B' e m v k xs := by
  refine ⟨h.1, ?_⟩
  rcases h.2 with e | ⟨g, cap, cur, e, hb, rest⟩
  · exact .inl e
  · exact .inr ⟨g, cap, cur, e, by omega, rest⟩

theorem own_rowV5 {w : World} {B : Nat} {v : Value} {l : List Int} (h : Own w B v l) : RowV w B v l := by
  refine ⟨h.gen, ?_⟩
  rcases h.2 with ⟨e, h0⟩ | ⟨g, cap, cur, e, _, _, h2, h3, _⟩
  · exact ⟨none, 0, by rw [e, h0], by omega, by omega⟩
  · exact ⟨_, cap, e, h2, by unfold maxLen at h3; omega⟩

theorem ownsRow_uniq {w : World} {B : Nat} {e : TypeId} {m n : Nat} {v : Value} {xs ys : List Value} (h : w.ownsRow B e m v n xs) (h' : w.ownsRow B e m v n ys) : xs = ys := by
  rcases h.2 with ⟨e1, h0⟩ | ⟨g, cap, cur, e1, _, hg, _, _, _, ht⟩
  · have a := h.1
    have b := h'.1
    subst h0
    have a' : xs = [] := List.eq_nil_of_length_eq_zero (by simpa using a)
    have b' : ys = [] := List.eq_nil_of_length_eq_zero (by simpa using b)
    rw [a', b']
  · rcases h'.2 with ⟨e2, h0⟩ | ⟨g', cap', cur', e2, _, hg', _, _, _, ht'⟩
    · rw [e1] at e2; cases e2
    · rw [e1] at e2
      injection e2 with e3 _ _
      injection e3 with e4
      injection e4 with e5
      subst e5
      rw [hg] at hg'
      injection hg' with e6
      injection e6 with e7
      subst e7
      rw [← ht, ← ht']

def GrowX (w : World) (B : Nat) (v : Value) (L : List (List Int)) (xs : List Value) : Prop :=
  w.ownsRow B 26 1 v L.length xs ∧ (∀ k, k < L.length → ∃ vk, xs[k]? = some vk ∧ RowV w B vk (rowK L k)) ∧
  ∀ i j, i < j → j < L.length → ∀ vi vj k, xs[i]? = some vi → xs[j]? = some vj → vi.ownBlock = some k → vj.ownBlock ≠ some k
section
variable {w w' w1 w5 : World} {B : Nat} {v v' vk : Value} {L : List (List Int)} {l : List Int} {xs : List Value}
theorem GrowX.keep (h : GrowX w B v L xs) (hk : ∀ (k : Nat) (cs : Array Value) (t : TypeId) (f : Nat × Nat), w.heap[k]? = some (.cells cs t f) → w'.heap[k]? = w.heap[k]?) : GrowX w' B v L xs := by
  obtain ⟨h1, h2, h3⟩ := h
  refine ⟨⟨h1.1, ?_⟩, fun k hkl => ?_, h3⟩
  · rcases h1.2 with e | ⟨g, cap, cur, e, hb, hg, rest⟩
    · exact .inl e
    · exact .inr ⟨g, cap, cur, e, hb, (hk g _ _ _ hg).trans hg, rest⟩
  · obtain ⟨u, h4, h5⟩ := h2 k hkl
    refine ⟨u, h4, h5.same fun i hi => ?_⟩
    obtain ⟨cur, hc⟩ := h5.1.kind hi
    exact hk i _ _ _ hc
theorem GrowX.below {D : Nat} (h : GrowX w B v L xs) (hb : Below D w w') (hD : w.heap.size ≤ D) : GrowX w' B v L xs :=
  h.keep fun k _ _ _ hk => hb.block k (by have := (Array.getElem?_eq_some_iff.1 hk).1; omega)
/-- A row that lies in blocks behind w's, a cell for its value, the value appended. -/
theorem GrowX.snoc (h : GrowX w B v L xs) (hb : Below w.heap.size w w1) (hBw : B ≤ w.heap.size) (hr : RowV w1 w.heap.size vk l) (o : Obj)
    (ho : w5.ownsRow B 26 1 v' (L.length + 1) (xs ++ [vk])) (hg : (w1.alloc o).grownBy w5 v.ownBlock) : GrowX w5 B v' (L ++ [l]) (xs ++ [vk]) := by
  obtain ⟨h1, h2, h3⟩ := h.below hb (Nat.le_refl _)
  have hxl : xs.length = L.length := by have := h1.1; omega
  have hlt : ∀ i vi k, i < L.length → xs[i]? = some vi → vi.ownBlock = some k → k < w.heap.size := fun i vi k hi hx hk => by
    obtain ⟨u, h4, h5⟩ := h.2.1 i hi
    rw [hx] at h4
    injection h4 with h4
    subst h4
    exact (h5.1.lt k hk).2
  have hge : ∀ k, vk.ownBlock = some k → w.heap.size ≤ k := fun k hk => (hr.1.lt k hk).1
  obtain ⟨ys, g1, g2⟩ : GrowS w5 B v' (L ++ [l]) := grow_row rfl h1 h2 (hr.less hBw) o ho hg
  have hys : ys = xs ++ [vk] := by
    rw [List.length_append] at g1
    exact ownsRow_uniq g1 ho
  subst hys
  refine ⟨by rw [List.length_append]; exact ho, g2, fun i j hij hj vi vj k hi hj' hk => ?_⟩
  rw [List.length_append, List.length_singleton] at hj
  rw [List.getElem?_append_left (by omega)] at hi
  rcases Nat.lt_or_ge j L.length with hjl | hjl
  · rw [List.getElem?_append_left (by omega)] at hj'
    exact h3 i j hij hjl vi vj k hi hj' hk
  · obtain rfl : j = L.length := by omega
    rw [List.getElem?_append_right (by omega)] at hj'
    simp [hxl] at hj'
    subst hj'
    intro e
    have a1 := hge k e
    have a2 := hlt i vi k hij hi hk
    omega

/-- The first row, appended to a slice that has no room. -/
theorem GrowX.one (hBw : B ≤ w1.heap.size) (hr : RowV w1 B vk l) (o : Obj) (ho : w5.ownsRow (w1.alloc o).heap.size 26 1 v' 1 [vk]) (hg : (w1.alloc o).grownBy w5 none) : GrowX w5 B v' [l] [vk] := by
  refine ⟨ownsRow_less ho (by simp; omega), fun k hk => ?_, fun i j hij hj => by simp at hj; omega⟩
  obtain rfl : k = 0 := by simpa using hk
  refine ⟨vk, rfl, ?_⟩
  have : rowK [l] 0 = l := rfl
  rw [this]
  exact hr.same fun k hk => (hg.block k (by have := (hr.1.lt k hk).2; simp; omega) (by simp)).trans (Below.heap_alloc _ _ _ (hr.1.lt k hk).2)
theorem GrowX.owned (h : GrowX w B v L xs) : OwnS w B w.heap.size v L := by
  obtain ⟨h1, h2, h3⟩ := h
  rcases h1.2 with ⟨e, h0⟩ | ⟨g, cap, cur, e, hB, hg, hc, hm, hs, ht⟩
  · exact .inl ⟨e, List.eq_nil_of_length_eq_zero h0⟩
  · refine .inr ⟨g, cap, cur, fun j => xs.getD j undef, e, hB, (Array.getElem?_eq_some_iff.1 hg).1, hg, fun j hj => ?_, fun i j hi hj hij k hk => ?_⟩
    · obtain ⟨vk, h4, h5⟩ := h2 j hj
      have e1 : xs.getD j undef = vk := by simp [List.getD, h4]
      show cur[j]? = some (xs.getD j undef) ∧ Own2 w B w.heap.size (xs.getD j undef) (rowK L j) ∧ (xs.getD j undef).ownBlock ≠ some g ∧ ∃ A c, xs.getD j undef = .slice A (rowK L j).length c ∧ (rowK L j).length ≤ c ∧ c ≤ 9223372036854775807
      rw [e1]
      refine ⟨?_, h5.1.two, fun e2 => ?_, h5.2⟩
      · rw [← ht, List.getElem?_take, if_pos (by omega)] at h4
        simpa using h4
      · exact h5.1.apart h1 g e2 (by rw [e]; rfl)
    · obtain ⟨vi, hi1, _⟩ := h2 i hi
      obtain ⟨vj, hj1, _⟩ := h2 j hj
      have e1 : xs.getD i undef = vi := by simp [List.getD, hi1]
      have e2 : xs.getD j undef = vj := by simp [List.getD, hj1]
      replace hk : vi.ownBlock = some k := by rw [← e1]; exact hk
      show (xs.getD j undef).ownBlock ≠ some k
      rw [e2]
      rcases Nat.lt_or_ge i j with hlt | hge
      · exact h3 i j hlt hj vi vj k hi1 hj1 hk
      · intro e3
        exact h3 j i (by omega) hi vj vi k hj1 hi1 e3 hk
end
end Go.Proofs.YtgojojoanhilnabDoor
