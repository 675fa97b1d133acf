/- A slice of slices that the call fills row by row; its copy, its marking, the check of its marks. -/
import Derived.Test.YtoifdfbhhdedbaaDoorMatL
namespace Go.Proofs.YtoifdfbhhdedbaaDoor
open Go.ChangeShapes Go.WideShapes Go.ChangeAt Go.RowKit

/-- Block B has n cells for rows; the first k are the call's own, and hold the rows of L. -/
def Fill (w : World) (B n : Nat) (L : List (List Int)) (k : Nat) : Prop :=
  ∃ cur, ∃ G : Nat → Nat, w.heap[B]? = some (.cells cur 28 (0, 0)) ∧ cur.size = n ∧
    ∀ j, j < k → cur[j]? = some (.slice (some ⟨G j, 0, none⟩) (rowK L j).length (rowK L j).length) ∧ B < G j ∧ Own w (B + 1) (.slice (some ⟨G j, 0, none⟩) (rowK L j).length (rowK L j).length) (rowK L j) ∧ ∀ i, i < j → G i ≠ G j

section
variable {w w' : World} {B n k D : Nat} {L : List (List Int)}
theorem Fill.lt (h : Fill w B n L k) : B < w.heap.size := by
  obtain ⟨cur, G, hg, _⟩ := h
  exact (Array.getElem?_eq_some_iff.1 hg).1
theorem own_same {v : Value} {l : List Int} (h : Own w B v l) (hk : ∀ k, v.ownBlock = some k → w'.heap[k]? = w.heap[k]?) : Own w' B v l := by
  refine ⟨h.1, ?_⟩
  rcases h.2 with e | ⟨g, cap, cur, rfl, hb, hg, rest⟩
  · exact .inl e
  · exact .inr ⟨g, cap, cur, rfl, hb, (hk g rfl).trans hg, rest⟩
theorem Fill.below (h : Fill w B n L k) (hb : Below D w w') (hD : w.heap.size ≤ D) : Fill w' B n L k := by
  have hlt := h.lt
  obtain ⟨cur, G, hg, hs, hr⟩ := h
  refine ⟨cur, G, (hb.block B (by omega)).trans hg, hs, fun j hj => ?_⟩
  obtain ⟨h1, h2, h3, h4⟩ := hr j hj
  exact ⟨h1, h2, own_same h3 fun i hi => hb.block i (by have := (h3.lt i hi).2; omega), h4⟩
theorem Fill.cell (h : Fill w B n L k) {j : Nat} (hj : j < n) : ∃ u, w.cell? ⟨B, j, none⟩ = some u := by
  obtain ⟨cur, G, hg, hs, hr⟩ := h
  refine ⟨cur[j]'(by omega), ?_⟩
  rw [cell_of_row w B j cur _ _ hg]
  exact Array.getElem?_eq_getElem (by omega)
theorem Fill.frozen (h : Fill w B n L k) (j : Nat) : w.frozen? ⟨B, j, none⟩ = false := by
  obtain ⟨cur, G, hg, hs, hr⟩ := h
  exact frozen_of_row w B j cur _ hg
/-- A row more: it lies in a block that was not there. -/
theorem Fill.step (h : Fill w B n L k) (hb : Below w.heap.size w w') {g m : Nat} (hg : w.heap.size ≤ g) (hm : m = (rowK L k).length) (ho : Own w' (B + 1) (.slice (some ⟨g, 0, none⟩) m m) (rowK L k)) (hk : k < n) :
    Fill (w'.setCell ⟨B, k, none⟩ (.slice (some ⟨g, 0, none⟩) m m)) B n L (k + 1) := by
  subst hm
  have hlt := h.lt
  have h' := h.below hb (Nat.le_refl _)
  obtain ⟨cur, G, hgB, hs, hr⟩ := h
  refine ⟨cur.setIfInBounds k (.slice (some ⟨g, 0, none⟩) (rowK L k).length (rowK L k).length), fun j => if j = k then g else G j, heap_setCell_same w' B k cur _ _ ((hb.block B hlt).trans hgB), by simpa using hs, fun j hj => ?_⟩
  have far : ∀ i, i ≠ B → (w'.setCell ⟨B, k, none⟩ (.slice (some ⟨g, 0, none⟩) (rowK L k).length (rowK L k).length)).heap[i]? = w'.heap[i]? := fun i hi => Below.heap_setCell _ _ _ _ hi
  have hG : ∀ j, j < k → G j < w.heap.size := fun j hj => ((hr j hj).2.2.1.lt _ rfl).2
  by_cases e : j = k
  · subst e
    simp only [if_true]
    refine ⟨by simp [hs, hk], by omega, own_same ho fun i hi => far i ?_, fun i hi => ?_⟩
    · simp [Value.ownBlock] at hi; omega
    · rw [if_neg (by omega)]; have := hG i hi; omega
  · have hjk : j < k := by omega
    obtain ⟨h1, h2, h3, h4⟩ := hr j hjk
    simp only [if_neg e]
    refine ⟨?_, h2, own_same h3 fun i hi => ?_, fun i hi => ?_⟩
    · rw [Array.getElem?_setIfInBounds, if_neg (by omega)]; exact h1
    · have hi' : i = G j := by simp [Value.ownBlock] at hi; omega
      subst hi'
      rw [far _ (by omega), hb.block _ (hG j hjk)]
    · rw [if_neg (by omega)]; exact h4 i hi
theorem Fill.own (h : Fill w B n L n) (hL : L.length = n) (hlen : ∀ j, j < n → (rowK L j).length ≤ 9223372036854775807) : OwnS w B w.heap.size (.slice (some ⟨B, 0, none⟩) n n) L := by
  have hlt := h.lt
  obtain ⟨cur, G, hg, hs, hr⟩ := h
  subst hL
  refine .inr ⟨B, L.length, cur, fun j => .slice (some ⟨G j, 0, none⟩) (rowK L j).length (rowK L j).length, rfl, Nat.le_refl _, hlt, hg, fun j hj => ?_, fun i j hi hj hij k hk => ?_⟩
  · obtain ⟨h1, h2, h3, h4⟩ := hr j hj
    have h2' := (own_less h3 (by omega : B ≤ B + 1)).two
    exact ⟨h1, h2', by simp [Value.ownBlock]; omega, _, _, rfl, Nat.le_refl _, hlen j hj⟩
  · simp [Value.ownBlock] at hk ⊢
    subst hk
    rcases Nat.lt_or_gt_of_ne hij with hlt' | hlt'
    · exact fun e => (hr j hj).2.2.2 i hlt' e.symm
    · exact fun e => (hr i hi).2.2.2 j hlt' e
theorem Fill.made {cur : Array Value} (hg : w.heap[B]? = some (.cells cur 28 (0, 0))) (hs : cur.size = n) : Fill w B n L 0 := ⟨cur, fun _ => 0, hg, hs, fun j hj => absurd hj (by omega)⟩
end

theorem row_info : (Tryd.prog.info? 28).map (fun i => (i.zero, i.size, i.bytes)) = some (some (.slice none 0 0), 1, 24) := by kernel_rfl

/-- The rows, marked by numbers that go on from row to row. -/
def marksS (q : Int) (L : List (List Int)) : List (List Int) := (List.range L.length).map fun k => marks (q + sumTo L k) (rowK L k).length
def mixS (q : Int) (L : List (List Int)) (m : Nat) : List (List Int) := (List.range L.length).map fun k => if k < m then marks (q + sumTo L k) (rowK L k).length else rowK L k
theorem marksS_length (q : Int) (L : List (List Int)) : (marksS q L).length = L.length := by simp [marksS]
theorem mixS_length (q : Int) (L : List (List Int)) (m : Nat) : (mixS q L m).length = L.length := by simp [mixS]
theorem marksS_row (q : Int) (L : List (List Int)) (k : Nat) (h : k < L.length) : rowK (marksS q L) k = marks (q + sumTo L k) (rowK L k).length := by
  simp [marksS, rowK, List.getD, h]
theorem mixS_row (q : Int) (L : List (List Int)) (m k : Nat) (h : k < L.length) (hm : m ≤ k) : rowK (mixS q L m) k = rowK L k := by
  simp [mixS, rowK, List.getD, h, show ¬ k < m by omega]
theorem mixS_zero (q : Int) (L : List (List Int)) : mixS q L 0 = L := by
  apply List.ext_getElem
  · simp [mixS]
  · intro i h1 h2
    simp [mixS, rowK, List.getD, h2]
theorem mixS_full (q : Int) (L : List (List Int)) : mixS q L L.length = marksS q L := by
  unfold mixS marksS
  apply List.map_congr_left
  intro k hk
  rw [if_pos (by simpa using hk)]
theorem mixS_step (q : Int) (L : List (List Int)) (k : Nat) (_ : k < L.length) : (mixS q L k).set k (marks (q + sumTo L k) (rowK L k).length) = mixS q L (k + 1) := by
  apply List.ext_getElem
  · simp [mixS]
  · intro i h1 h2
    simp only [mixS, List.getElem_set, List.getElem_map, List.getElem_range]
    by_cases e : k = i
    · subst e; simp
    · simp only [if_neg e]
      by_cases hik : i < k
      · simp [hik, show i < k + 1 by omega]
      · simp [hik, show ¬ i < k + 1 by omega]
theorem rowK_set (L : List (List Int)) (k j : Nat) (l : List Int) (hk : k < L.length) : rowK (L.set k l) j = if j = k then l else rowK L j := by
  by_cases e : j = k
  · subst e; simp [rowK, List.getD, hk]
  · simp [rowK, List.getD, e, Ne.symm e]

section
variable {w : World} {B C : Nat} {v : Value} {L : List (List Int)}
theorem OwnS.row (h : OwnS w B C v L) {k : Nat} (hk : k < L.length) : ∃ g c A d, v = .slice (some ⟨g, 0, none⟩) L.length c ∧ w.cell? ⟨g, k, none⟩ = some (.slice A (rowK L k).length d) ∧ Own2 w B C (.slice A (rowK L k).length d) (rowK L k) ∧
    ∀ (w' : World) (l' : List Int), l'.length = (rowK L k).length → w.grownBy w' (Value.slice A (rowK L k).length d).ownBlock → Own2 w' B C (.slice A (rowK L k).length d) l' → OwnS w' B C v (L.set k l') := by
  rcases h with ⟨_, rfl⟩ | ⟨g, c, cur, V, rfl, hB, hC, hg, hr, hd⟩
  · simp at hk
  · obtain ⟨h1, h2, h3, A, d, h4, h5, h6⟩ := hr k hk
    rw [h4] at h1 h2 h3
    refine ⟨g, c, A, d, rfl, by rw [cell_of_row w g k cur _ _ hg]; exact h1, h2, fun w' l' hl hgr ho => ?_⟩
    refine .inr ⟨g, c, cur, V, by rw [List.length_set], hB, hC, (hgr.block g (Array.getElem?_eq_some_iff.1 hg).1 (fun e => h3 e.symm)).trans hg, fun j hj => ?_, fun i j hi hj => hd i j (by simpa using hi) (by simpa using hj)⟩
    rw [List.length_set] at hj
    rw [rowK_set L k j l' hk]
    by_cases e : j = k
    · subst e
      rw [if_pos rfl, h4]
      exact ⟨h1, ho, h3, A, d, by rw [hl], by omega, h6⟩
    · rw [if_neg e]
      obtain ⟨p1, p2, p3, p4⟩ := hr j hj
      exact ⟨p1, ⟨p2.1.same fun i hi => hgr.block i (p2.1.lt i hi).2 (fun e' => hd k j hk hj (Ne.symm e) i (by rw [h4]; exact e'.symm) hi), p2.2⟩, p3, p4⟩
end

end Go.Proofs.YtoifdfbhhdedbaaDoor
