/- Several texts as one: Mat MatL Fill Three Tri Rows2 Blk EachM ReadT EachT Tel Grow Every IdxF DelF. -/
import Derived.Test.YtehadbpbkenccaaGreatDoorMA
import Derived.Deep.Matrix
import Derived.StillTailTactics
namespace Go.Proofs.YtehadbpbkenccaaGreatDoor
open Go.ChangeShapes Go.WideShapes Go.ChangeAt Go.RowKit

/-- The row k of a list of lists. -/
abbrev rowK (L : List (List Int)) (k : Nat) : List Int := L.getD k []

/-- The slice of slices with address A and n rows reads in w as L, in blocks below B; each row has its length as capacity at least. -/
def RdS (w : World) (B : Nat) (A : Option Addr) (n : Nat) (L : List (List Int)) : Prop :=
  L.length = n ∧ (0 < n → ∃ b o, A = some ⟨b, o, none⟩ ∧ b < B ∧ ∀ k, k < n → ∃ Ak ck, w.cell? ⟨b, o + k, none⟩ = some (.slice Ak (rowK L k).length ck) ∧ Rd w B Ak (rowK L k).length (rowK L k) ∧ (rowK L k).length ≤ ck ∧ ck ≤ 9223372036854775807)

section
variable {w w' : World} {B B' n : Nat} {A : Option Addr} {L : List (List Int)}
theorem RdS.len (h : RdS w B A n L) : L.length = n := h.1
theorem RdS.at_ (h : RdS w B A n L) (hn : 0 < n) : ∃ b o, A = some ⟨b, o, none⟩ ∧ b < B ∧ ∀ k, k < n → ∃ Ak ck, w.cell? ⟨b, o + k, none⟩ = some (.slice Ak (rowK L k).length ck) ∧ Rd w B Ak (rowK L k).length (rowK L k) ∧ (rowK L k).length ≤ ck ∧ ck ≤ 9223372036854775807 := h.2 hn
theorem RdS.keep (h : RdS w B A n L) (hk : ∀ b o, b < B → w'.cell? ⟨b, o, none⟩ = w.cell? ⟨b, o, none⟩) : RdS w' B A n L :=
  ⟨h.1, fun hn => by
    obtain ⟨b, o, e, hb, hc⟩ := h.2 hn
    refine ⟨b, o, e, hb, fun k hkn => ?_⟩
    obtain ⟨Ak, ck, h1, h2, h3⟩ := hc k hkn
    exact ⟨Ak, ck, (hk _ _ hb).trans h1, h2.keep hk, h3⟩⟩
theorem RdS.more (h : RdS w B A n L) (hB : B ≤ B') : RdS w B' A n L :=
  ⟨h.1, fun hn => by
    obtain ⟨b, o, e, hb, hc⟩ := h.2 hn
    refine ⟨b, o, e, by omega, fun k hkn => ?_⟩
    obtain ⟨Ak, ck, h1, h2, h3⟩ := hc k hkn
    exact ⟨Ak, ck, h1, h2.more hB, h3⟩⟩
theorem RdS.below (h : RdS w B A n L) (hb : Below B w w') : RdS w' B A n L := h.keep fun _ _ hp => hb.cell hp
theorem RdS.drewN (h : RdS w B A n L) (k : Nat) : RdS (w.drewN k) B A n L := h.keep fun _ _ _ => rfl
theorem RdS.nil : RdS w B A 0 [] := ⟨rfl, fun h => absurd h (by omega)⟩
end

/-- Of the blocks that there were only those between B and C may have turned. -/
structure Turn (B C : Nat) (w w' : World) : Prop where
  os : w'.os = w.os
  tape : w'.tape = w.tape
  output : w'.output = w.output
  size : w.heap.size ≤ w'.heap.size
  block : ∀ k, k < w.heap.size → (k < B ∨ C ≤ k) → w'.heap[k]? = w.heap[k]?

section
variable {w w' w'' : World} {B C B' C' D n : Nat} {v : Value} {l : List Int} {A : Option Addr} {L : List (List Int)}
theorem Turn.refl (B C : Nat) (w : World) : Turn B C w w := ⟨rfl, rfl, rfl, Nat.le_refl _, fun _ _ _ => rfl⟩
theorem Turn.trans (h : Turn B C w w') (h' : Turn B C w' w'') : Turn B C w w'' :=
  ⟨h'.os.trans h.os, h'.tape.trans h.tape, h'.output.trans h.output, Nat.le_trans h.size h'.size, fun k hk hr => (h'.block k (Nat.lt_of_lt_of_le hk h.size) hr).trans (h.block k hk hr)⟩
theorem turn_of {row : Option Nat} (hg : w.grownBy w' row) (hr : ∀ k, row = some k → B ≤ k ∧ k < C) : Turn B C w w' :=
  ⟨hg.os, hg.tape, hg.output, hg.size, fun k hk h => hg.block k hk fun e => by have := hr k e.symm; omega⟩
theorem below_turn {a : World} (h : Below D a w) (ht : Turn B C w w') (hD : D ≤ B) (hs : D ≤ w.heap.size) : Below D a w' :=
  h.trans ⟨ht.os, ht.tape, ht.output, ht.size, fun k hk => ht.block k (by omega) (.inl (by omega))⟩
theorem Rd.turn (h : Rd w D A n l) (ht : Turn B C w w') (hD : D ≤ B) (hs : D ≤ w.heap.size) : Rd w' D A n l := h.below (below_turn (Below.refl D w) ht hD hs)
theorem RdS.turn (h : RdS w D A n L) (ht : Turn B C w w') (hD : D ≤ B) (hs : D ≤ w.heap.size) : RdS w' D A n L := h.below (below_turn (Below.refl D w) ht hD hs)
theorem Own2.turn (h : Own2 w B' C' v l) (ht : Turn B C w w') (hr : C' ≤ B ∨ C ≤ B') : Own2 w' B' C' v l :=
  ⟨h.1.same fun k hk => by
    have h1 := h.1.lt k hk
    have h2 := h.2 k hk
    exact ht.block k h1.2 (by omega), h.2⟩
end

/-- A slice of slices of the call's own, all its blocks between B and C, no two of them the same. -/
def OwnS (w : World) (B C : Nat) (v : Value) (L : List (List Int)) : Prop :=
  (v = .slice none 0 0 ∧ L = []) ∨
  ∃ g c cur, ∃ V : Nat → Value, v = .slice (some ⟨g, 0, none⟩) L.length c ∧ B ≤ g ∧ g < C ∧ w.heap[g]? = some (.cells cur 41 (0, 0)) ∧
    (∀ j, j < L.length → cur[j]? = some (V j) ∧ Own2 w B C (V j) (rowK L j) ∧ (V j).ownBlock ≠ some g ∧ ∃ A c, V j = .slice A (rowK L j).length c ∧ (rowK L j).length ≤ c ∧ c ≤ 9223372036854775807) ∧
    ∀ i j, i < L.length → j < L.length → i ≠ j → ∀ k, (V i).ownBlock = some k → (V j).ownBlock ≠ some k

section
variable {w w' : World} {B C B' C' D n : Nat} {v : Value} {L : List (List Int)}
theorem OwnS.slice (h : OwnS w B C v L) : ∃ A c, v = .slice A L.length c := by
  rcases h with ⟨e, rfl⟩ | ⟨g, c, cur, V, e, _⟩
  · exact ⟨none, 0, e⟩
  · exact ⟨_, c, e⟩
theorem OwnS.keep (h : OwnS w B C v L) (hk : ∀ k, B ≤ k → k < C → k < w.heap.size → w'.heap[k]? = w.heap[k]?) : OwnS w' B C v L := by
  rcases h with e | ⟨g, c, cur, V, rfl, hB, hC, hg, hr, hd⟩
  · exact .inl e
  · refine .inr ⟨g, c, cur, V, rfl, hB, hC, (hk g hB hC (Array.getElem?_eq_some_iff.1 hg).1).trans hg, fun j hj => ?_, hd⟩
    obtain ⟨h1, h2, h3⟩ := hr j hj
    exact ⟨h1, ⟨h2.1.same fun k hkk => hk k (h2.1.lt k hkk).1 (h2.2 k hkk) (h2.1.lt k hkk).2, h2.2⟩, h3⟩
theorem OwnS.below (h : OwnS w B C v L) (hb : Below D w w') (hC : C ≤ D) : OwnS w' B C v L := h.keep fun k _ hk _ => hb.block k (by omega)
theorem OwnS.turn (h : OwnS w B C v L) (ht : Turn B' C' w w') (hr : C ≤ B' ∨ C' ≤ B) : OwnS w' B C v L := h.keep fun k h1 h2 h3 => ht.block k h3 (by omega)
theorem OwnS.more (h : OwnS w B C v L) (hB : B' ≤ B) (hC : C ≤ C') : OwnS w B' C' v L := by
  rcases h with e | ⟨g, c, cur, V, rfl, hB', hC', hg, hr, hd⟩
  · exact .inl e
  · refine .inr ⟨g, c, cur, V, rfl, by omega, by omega, hg, fun j hj => ?_, hd⟩
    obtain ⟨h1, h2, h3⟩ := hr j hj
    refine ⟨h1, ⟨?_, fun k hk => Nat.lt_of_lt_of_le (h2.2 k hk) hC⟩, h3⟩
    rcases h2.1 with e | ⟨g', o, c', cur', e, hb, rest⟩
    · exact .inl e
    · exact .inr ⟨g', o, c', cur', e, by omega, rest⟩
theorem OwnS.rd {A : Option Addr} {n c : Nat} (h : OwnS w B C (.slice A n c) L) : n = L.length ∧ RdS w w.heap.size A n L := by
  rcases h with ⟨e, rfl⟩ | ⟨g, c', cur, V, e, hB, hC, hg, hr, hd⟩
  · injection e with e1 e2 e3
    subst e1; subst e2
    exact ⟨rfl, RdS.nil⟩
  · injection e with e1 e2 e3
    subst e1; subst e2
    refine ⟨rfl, rfl, fun _ => ⟨g, 0, rfl, (Array.getElem?_eq_some_iff.1 hg).1, fun k hk => ?_⟩⟩
    obtain ⟨h1, h2, h3, Ak, ck, h4, h5, h6⟩ := hr k hk
    rw [h4] at h1 h2
    refine ⟨Ak, ck, ?_, h2.rd, h5, h6⟩
    rw [Nat.zero_add, cell_of_row w g _ cur _ _ hg]
    exact h1
end
end Go.Proofs.YtehadbpbkenccaaGreatDoor

namespace Go.Proofs.YtehadbpbkenccaaGreatDoor
open Go.ChangeShapes Go.WideShapes Go.ChangeAt Go.RowKit

/-- How many numbers and rows there are among the first k rows. -/
def sumTo (L : List (List Int)) : Nat → Nat
  | 0 => 0
  | k + 1 => sumTo L k + (rowK L k).length
def tot (L : List (List Int)) : Nat := L.length + sumTo L L.length
theorem sumTo_le (L : List (List Int)) (k m : Nat) (h : k ≤ m) : sumTo L k ≤ sumTo L m := by
  induction m with
  | zero => obtain rfl : k = 0 := by omega
            exact Nat.le_refl _
  | succ m ih =>
    rcases Nat.lt_or_ge k (m + 1) with h1 | h1
    · have := ih (by omega); simp only [sumTo]; omega
    · obtain rfl : k = m + 1 := by omega
      exact Nat.le_refl _
theorem row_le (L : List (List Int)) (k : Nat) (h : k < L.length) : (rowK L k).length ≤ tot L := by
  have := sumTo_le L (k + 1) L.length (by omega)
  simp only [sumTo] at this
  unfold tot; omega

/-- What eqIntSS answers. -/
def sameS (L M : List (List Int)) : Bool := decide (L = M)
theorem takeS_step (xs ys : List (List Int)) (k : Nat) (hx : k < xs.length) (hy : k < ys.length) (h : xs.take k = ys.take k) (e : rowK xs k = rowK ys k) : xs.take (k + 1) = ys.take (k + 1) := by
  rw [List.take_succ_eq_append_getElem hx, List.take_succ_eq_append_getElem hy, h]
  simp [rowK, List.getD, hx, hy] at e
  rw [e]

end Go.Proofs.YtehadbpbkenccaaGreatDoor

namespace Go.Proofs.YtehadbpbkenccaaGreatDoor
open Go.ChangeShapes Go.WideShapes Go.ChangeAt Go.RowKit

/-- Block B has n cells for rows; the first k are the call's own, and hold the rows of L. -/
def Fill (w : World) (B n : Nat) (L : List (List Int)) (k : Nat) : Prop :=
  ∃ cur, ∃ G : Nat → Nat, w.heap[B]? = some (.cells cur 41 (0, 0)) ∧ cur.size = n ∧
    ∀ j, j < k → cur[j]? = some (.slice (some ⟨G j, 0, none⟩) (rowK L j).length (rowK L j).length) ∧ B < G j ∧ Own w (B + 1) (.slice (some ⟨G j, 0, none⟩) (rowK L j).length (rowK L j).length) (rowK L j) ∧ ∀ i, i < j → G i ≠ G j

section
variable {w w' : World} {B n k D : Nat} {L : List (List Int)}
theorem Fill.lt (h : Fill w B n L k) : B < w.heap.size := by
  obtain ⟨cur, G, hg, _⟩ := h
  exact (Array.getElem?_eq_some_iff.1 hg).1
theorem own_same {v : Value} {l : List Int} (h : Own w B v l) (hk : ∀ k, v.ownBlock = some k → w'.heap[k]? = w.heap[k]?) : Own w' B v l := by
  refine ⟨h.1, ?_⟩
  rcases h.2 with e | ⟨g, cap, cur, rfl, hb, hg, rest⟩
  · exact .inl e
  · exact .inr ⟨g, cap, cur, rfl, hb, (hk g rfl).trans hg, rest⟩
theorem Fill.below (h : Fill w B n L k) (hb : Below D w w') (hD : w.heap.size ≤ D) : Fill w' B n L k := by
  have hlt := h.lt
  obtain ⟨cur, G, hg, hs, hr⟩ := h
  refine ⟨cur, G, (hb.block B (by omega)).trans hg, hs, fun j hj => ?_⟩
  obtain ⟨h1, h2, h3, h4⟩ := hr j hj
  exact ⟨h1, h2, own_same h3 fun i hi => hb.block i (by have := (h3.lt i hi).2; omega), h4⟩
theorem Fill.cell (h : Fill w B n L k) {j : Nat} (hj : j < n) : ∃ u, w.cell? ⟨B, j, none⟩ = some u := by
  obtain ⟨cur, G, hg, hs, hr⟩ := h
  refine ⟨cur[j]'(by omega), ?_⟩
  rw [cell_of_row w B j cur _ _ hg]
  exact Array.getElem?_eq_getElem (by omega)
theorem Fill.frozen (h : Fill w B n L k) (j : Nat) : w.frozen? ⟨B, j, none⟩ = false := by
  obtain ⟨cur, G, hg, hs, hr⟩ := h
  exact frozen_of_row w B j cur _ hg
/-- A row more: it lies in a block that was not there. -/
theorem Fill.step (h : Fill w B n L k) (hb : Below w.heap.size w w') {g m : Nat} (hg : w.heap.size ≤ g) (hm : m = (rowK L k).length) (ho : Own w' (B + 1) (.slice (some ⟨g, 0, none⟩) m m) (rowK L k)) (hk : k < n) :
    Fill (w'.setCell ⟨B, k, none⟩ (.slice (some ⟨g, 0, none⟩) m m)) B n L (k + 1) := by
  subst hm
  have hlt := h.lt
  have h' := h.below hb (Nat.le_refl _)
  obtain ⟨cur, G, hgB, hs, hr⟩ := h
  refine ⟨cur.setIfInBounds k (.slice (some ⟨g, 0, none⟩) (rowK L k).length (rowK L k).length), fun j => if j = k then g else G j, heap_setCell_same w' B k cur _ _ ((hb.block B hlt).trans hgB), by simpa using hs, fun j hj => ?_⟩
  have far : ∀ i, i ≠ B → (w'.setCell ⟨B, k, none⟩ (.slice (some ⟨g, 0, none⟩) (rowK L k).length (rowK L k).length)).heap[i]? = w'.heap[i]? := fun i hi => Below.heap_setCell _ _ _ _ hi
  have hG : ∀ j, j < k → G j < w.heap.size := fun j hj => ((hr j hj).2.2.1.lt _ rfl).2
  by_cases e : j = k
  · subst e
    simp only [if_true]
    refine ⟨by simp [hs, hk], by omega, own_same ho fun i hi => far i ?_, fun i hi => ?_⟩
    · simp [Value.ownBlock] at hi; omega
    · rw [if_neg (by omega)]; have := hG i hi; omega
  · have hjk : j < k := by omega
    obtain ⟨h1, h2, h3, h4⟩ := hr j hjk
    simp only [if_neg e]
    refine ⟨?_, h2, own_same h3 fun i hi => ?_, fun i hi => ?_⟩
    · rw [Array.getElem?_setIfInBounds, if_neg (by omega)]; exact h1
    · have hi' : i = G j := by simp [Value.ownBlock] at hi; omega
      subst hi'
      rw [far _ (by omega), hb.block _ (hG j hjk)]
    · rw [if_neg (by omega)]; exact h4 i hi
theorem Fill.own (h : Fill w B n L n) (hL : L.length = n) (hlen : ∀ j, j < n → (rowK L j).length ≤ 9223372036854775807) : OwnS w B w.heap.size (.slice (some ⟨B, 0, none⟩) n n) L := by
  have hlt := h.lt
  obtain ⟨cur, G, hg, hs, hr⟩ := h
  subst hL
  refine .inr ⟨B, L.length, cur, fun j => .slice (some ⟨G j, 0, none⟩) (rowK L j).length (rowK L j).length, rfl, Nat.le_refl _, hlt, hg, fun j hj => ?_, fun i j hi hj hij k hk => ?_⟩
  · obtain ⟨h1, h2, h3, h4⟩ := hr j hj
    have h2' := (own_less h3 (by omega : B ≤ B + 1)).two
    exact ⟨h1, h2', by simp [Value.ownBlock]; omega, _, _, rfl, Nat.le_refl _, hlen j hj⟩
  · simp [Value.ownBlock] at hk ⊢
    subst hk
    rcases Nat.lt_or_gt_of_ne hij with hlt' | hlt'
    · exact fun e => (hr j hj).2.2.2 i hlt' e.symm
    · exact fun e => (hr i hi).2.2.2 j hlt' e
theorem Fill.made {cur : Array Value} (hg : w.heap[B]? = some (.cells cur 41 (0, 0))) (hs : cur.size = n) : Fill w B n L 0 := ⟨cur, fun _ => 0, hg, hs, fun j hj => absurd hj (by omega)⟩
end

theorem row_info : (Tryz.prog.info? 41).map (fun i => (i.zero, i.size, i.bytes)) = some (some (.slice none 0 0), 1, 24) := by kernel_rfl

/-- The rows, marked by numbers that go on from row to row. -/
def marksS (q : Int) (L : List (List Int)) : List (List Int) := (List.range L.length).map fun k => marks (q + sumTo L k) (rowK L k).length
def mixS (q : Int) (L : List (List Int)) (m : Nat) : List (List Int) := (List.range L.length).map fun k => if k < m then marks (q + sumTo L k) (rowK L k).length else rowK L k
theorem marksS_length (q : Int) (L : List (List Int)) : (marksS q L).length = L.length := by simp [marksS]
theorem mixS_length (q : Int) (L : List (List Int)) (m : Nat) : (mixS q L m).length = L.length := by simp [mixS]
theorem marksS_row (q : Int) (L : List (List Int)) (k : Nat) (h : k < L.length) : rowK (marksS q L) k = marks (q + sumTo L k) (rowK L k).length := by
  simp [marksS, rowK, List.getD, h]
theorem mixS_row (q : Int) (L : List (List Int)) (m k : Nat) (h : k < L.length) (hm : m ≤ k) : rowK (mixS q L m) k = rowK L k := by
  simp [mixS, rowK, List.getD, h, show ¬ k < m by omega]
theorem mixS_zero (q : Int) (L : List (List Int)) : mixS q L 0 = L := by
  apply List.ext_getElem
  · simp [mixS]
  · intro i h1 h2
    simp [mixS, rowK, List.getD, h2]
theorem mixS_full (q : Int) (L : List (List Int)) : mixS q L L.length = marksS q L := by
  unfold mixS marksS
  apply List.map_congr_left
  intro k hk
  rw [if_pos (by simpa using hk)]
theorem mixS_step (q : Int) (L : List (List Int)) (k : Nat) (_ : k < L.length) : (mixS q L k).set k (marks (q + sumTo L k) (rowK L k).length) = mixS q L (k + 1) := by
  apply List.ext_getElem
  · simp [mixS]
  · intro i h1 h2
    simp only [mixS, List.getElem_set, List.getElem_map, List.getElem_range]
    by_cases e : k = i
    · subst e; simp
    · simp only [if_neg e]
      by_cases hik : i < k
      · simp [hik, show i < k + 1 by omega]
      · simp [hik, show ¬ i < k + 1 by omega]
theorem rowK_set (L : List (List Int)) (k j : Nat) (l : List Int) (hk : k < L.length) : rowK (L.set k l) j = if j = k then l else rowK L j := by
  by_cases e : j = k
  · subst e; simp [rowK, List.getD, hk]
  · simp [rowK, List.getD, e, Ne.symm e]

section
variable {w : World} {B C : Nat} {v : Value} {L : List (List Int)}
theorem OwnS.row (h : OwnS w B C v L) {k : Nat} (hk : k < L.length) : ∃ g c A d, v = .slice (some ⟨g, 0, none⟩) L.length c ∧ w.cell? ⟨g, k, none⟩ = some (.slice A (rowK L k).length d) ∧ Own2 w B C (.slice A (rowK L k).length d) (rowK L k) ∧
    ∀ (w' : World) (l' : List Int), l'.length = (rowK L k).length → w.grownBy w' (Value.slice A (rowK L k).length d).ownBlock → Own2 w' B C (.slice A (rowK L k).length d) l' → OwnS w' B C v (L.set k l') := by
  rcases h with ⟨_, rfl⟩ | ⟨g, c, cur, V, rfl, hB, hC, hg, hr, hd⟩
  · simp at hk
  · obtain ⟨h1, h2, h3, A, d, h4, h5, h6⟩ := hr k hk
    rw [h4] at h1 h2 h3
    refine ⟨g, c, A, d, rfl, by rw [cell_of_row w g k cur _ _ hg]; exact h1, h2, fun w' l' hl hgr ho => ?_⟩
    refine .inr ⟨g, c, cur, V, by rw [List.length_set], hB, hC, (hgr.block g (Array.getElem?_eq_some_iff.1 hg).1 (fun e => h3 e.symm)).trans hg, fun j hj => ?_, fun i j hi hj => hd i j (by simpa using hi) (by simpa using hj)⟩
    rw [List.length_set] at hj
    rw [rowK_set L k j l' hk]
    by_cases e : j = k
    · subst e
      rw [if_pos rfl, h4]
      exact ⟨h1, ho, h3, A, d, by rw [hl], by omega, h6⟩
    · rw [if_neg e]
      obtain ⟨p1, p2, p3, p4⟩ := hr j hj
      exact ⟨p1, ⟨p2.1.same fun i hi => hgr.block i (p2.1.lt i hi).2 (fun e' => hd k j hk hj (Ne.symm e) i (by rw [h4]; exact e'.symm) hi), p2.2⟩, p3, p4⟩
end

end Go.Proofs.YtehadbpbkenccaaGreatDoor

namespace Go.Proofs.YtehadbpbkenccaaGreatDoor
open Go.ChangeShapes Go.WideShapes Go.ChangeAt Go.RowKit

/-- Three different points of n. -/
def Thr (n : Int) (l : List Int) : Prop := l.length = 3 ∧ (∀ x ∈ l, 0 ≤ x ∧ x < n) ∧ l.Nodup
instance (n : Int) (l : List Int) : Decidable (Thr n l) := by unfold Thr; infer_instance
def thr (n : Int) (l : List Int) : Bool := decide (Thr n l)
theorem thr3 (n x y z : Int) : Thr n [x, y, z] ↔ (0 ≤ x ∧ x ≤ n - 1) ∧ (0 ≤ y ∧ y ≤ n - 1) ∧ (0 ≤ z ∧ z ≤ n - 1) ∧ x ≠ y ∧ x ≠ z ∧ y ≠ z := by
  simp only [Thr, List.mem_cons, List.not_mem_nil, or_false, List.nodup_cons, List.nodup_nil, and_true, forall_eq_or_imp, forall_eq, List.length_cons, List.length_nil]
  constructor
  · rintro ⟨_, ⟨hx, hy, hz⟩, h1, h2, _⟩
    refine ⟨by omega, by omega, by omega, ?_, ?_, ?_⟩ <;> intro e <;> simp_all
  · rintro ⟨hx, hy, hz, h1, h2, h3⟩
    refine ⟨trivial, ⟨by omega, by omega, by omega⟩, ?_, ?_, ?_⟩ <;> simp_all
theorem of_three {l : List Int} (h : l.length = 3) : ∃ x y z, l = [x, y, z] := by
  match l, h with
  | [x, y, z], _ => exact ⟨x, y, z, rfl⟩

section
variable {w : World} {H b o : Nat} {x y z : Int}
theorem rd3 {A : Option Addr} (h : Rd w H A 3 [x, y, z]) : ∃ b o, A = some ⟨b, o, none⟩ ∧ b < H ∧ w.cell? ⟨b, o, none⟩ = some (.int .i64 x) ∧ w.cell? ⟨b, o + 1, none⟩ = some (.int .i64 y) ∧ w.cell? ⟨b, o + 2, none⟩ = some (.int .i64 z) := by
  obtain ⟨b, o, e, hb, hc⟩ := h.at_ (by omega)
  exact ⟨b, o, e, hb, hc 0 (by omega), hc 1 (by omega), hc 2 (by omega)⟩
end

theorem in_yes (x a b : Int) (w : World) (h : (decide (a ≤ x) && decide (x ≤ b)) = true) : Calls Tryz.prog 92 #[.int .i64 x, .int .i64 a, .int .i64 b] w fun e w' => e = .returned (.bool true) ∧ w' = w :=
  (in_any x a b w).mono (by rintro e w' ⟨rfl, rfl⟩; exact ⟨by rw [h], rfl⟩)
theorem in_no (x a b : Int) (w : World) (h : (decide (a ≤ x) && decide (x ≤ b)) = false) : Calls Tryz.prog 92 #[.int .i64 x, .int .i64 a, .int .i64 b] w fun e w' => e = .returned (.bool false) ∧ w' = w :=
  (in_any x a b w).mono (by rintro e w' ⟨rfl, rfl⟩; exact ⟨by rw [h], rfl⟩)

end Go.Proofs.YtehadbpbkenccaaGreatDoor

namespace Go.Proofs.YtehadbpbkenccaaGreatDoor
open Go.ChangeShapes Go.WideShapes Go.ChangeAt Go.RowKit

/-- Block g of w is just the variable of type t with the ints P. -/
def Blk (t : TypeId) (w : World) (g : Nat) (P : List Int) : Prop := w.heap[g]? = some (.cells (ints P).toArray t (0, 0))
abbrev Tri (w : World) (g : Nat) (P : List Int) : Prop := Blk 183 w g P

section
variable {w w' : World} {g : Nat} {P : List Int} {t : TypeId}
theorem Blk.lt (h : Blk t w g P) : g < w.heap.size := (Array.getElem?_eq_some_iff.1 h).1
theorem Blk.cell (h : Blk t w g P) {i : Nat} (hi : i < P.length) : w.cell? ⟨g, i, none⟩ = some (.int .i64 (P.getD i 0)) := by
  rw [cell_of_row w g i _ _ (0, 0) h, List.getElem?_toArray, ints_get _ _ hi]
theorem Blk.frozen (h : Blk t w g P) (i : Nat) : w.frozen? ⟨g, i, none⟩ = false := frozen_of_row w g i _ _ h
theorem Blk.drewN (h : Blk t w g P) (n : Nat) : Blk t (w.drewN n) g P := h
theorem Blk.alloc (h : Blk t w g P) (o : Obj) : Blk t (w.alloc o) g P := (Below.heap_alloc w o g h.lt).trans h
theorem Blk.set_ (h : Blk t w g P) (i : Nat) (u : Int) : Blk t (w.setCell ⟨g, i, none⟩ (.int .i64 u)) g (P.set i u) := by
  unfold Blk at h ⊢
  rw [← ints_set, ← List.setIfInBounds_toArray]
  simp [World.setCell, Array.getElem?_modify, h]
theorem Blk.far (h : Blk t w g P) {p : Addr} (hp : g ≠ p.block) (u : Value) : Blk t (w.setCell p u) g P := (Below.heap_setCell w p u g hp).trans h
theorem Blk.below {B : Nat} (h : Blk t w g P) (hb : Below B w w') (hg : g < B) : Blk t w' g P := (hb.block g hg).trans h
theorem Blk.grown {row : Option Nat} (h : Blk t w g P) (hg : w.grownBy w' row) (hne : some g ≠ row) : Blk t w' g P := (hg.block g h.lt hne).trans h
theorem Blk.new (w : World) (P : List Int) : Blk t (w.alloc (.cells (ints P).toArray t)) w.heap.size P := heap_alloc_new w _
end

theorem three_size : (Tryz.prog.info? 183).map (·.size) = some 3 := by kernel_rfl
theorem three_info : (Tryz.prog.info? 183).map (fun i => (i.zero, i.size, i.bytes)) = some (some (.agg #[.int .i64 0, .int .i64 0, .int .i64 0]), 3, 24) := by kernel_rfl
theorem ring_info : (Tryz.prog.info? 31).map (fun i => (i.zero, i.size, i.bytes)) = some (some (.agg #[.int .i64 0, .int .i64 0, .int .i64 0, .int .i64 0, .int .i64 0, .int .i64 0, .int .i64 0]), 7, 56) := by kernel_rfl

/-- A whole three stored into a variable that is one. -/
theorem store_tri {ops : Array Oper} {rest : List Oper} {o : Oper} {a : Act} {w : World} {Q : Exit → Act → World → Prop} (hgd : o.guard = none) (x y : Operand) (ho : o.op = .store 183 x y)
    (g : Nat) (old P : List Int) (hold : old.length = 3) (hP : P.length = 3) (hx : a.eval x = .pointer (some ⟨g, 0, none⟩)) (hy : a.eval y = .agg (ints P).toArray) (hg : Hid (Tri w g old))
    (h : ∀ w', Hid (Tri w' g P) → w.grownBy w' (some g) → w'.heap.size = w.heap.size → wpList Tryz.prog ops Q rest (a.put o.dst undef) w') : wpList Tryz.prog ops Q (o :: rest) a w := by
  refine wpList_store_row hgd 183 x y ho g (ints P).toArray hx hy 183 (ints old).toArray hg.out (by rw [three_size]; simp [hP]) (by simp [hP, hold]) (ints_oneCellB P) (h _ ?_ ?_ ?_)
  · exact setRow_heap w g _ _ _ _ hg.out
  · exact ⟨rfl, rfl, rfl, by simp, fun k _ hk => setRow_other w g k _ (fun e => hk (by simp [e]))⟩
  · simp
theorem load_tri {ops : Array Oper} {rest : List Oper} {o : Oper} {a : Act} {w : World} {Q : Exit → Act → World → Prop} (hgd : o.guard = none) (x : Operand) (ho : o.op = .load 183 x)
    (g : Nat) (P : List Int) (hP : P.length = 3) (hx : a.eval x = .pointer (some ⟨g, 0, none⟩)) (hg : Hid (Tri w g P))
    (h : wpList Tryz.prog ops Q rest (a.put o.dst (.agg (ints P).toArray)) w) : wpList Tryz.prog ops Q (o :: rest) a w :=
  wpList_load_row hgd 183 x ho g hx 183 _ (0, 0) _ hg.out Tryz.underlying183 rfl (by rw [three_size]; simp [hP]) h
theorem results_tri2 {fn : Func} {p t : Tmp} (h : fn.results = #[.cell p 183, .tmp t]) (tmps : Array Value) (w : World) (g : Nat) (P : List Int) (hP : P.length = 3)
    (hp : tmps.getD p undef = .pointer (some ⟨g, 0, none⟩)) (hg : Hid (Tri w g P)) : (results fn tmps).run Tryz.prog w = .ok (.tuple #[.agg (ints P).toArray, tmps.getD t undef]) w := by
  have hp' : tmps[p]?.getD undef = .pointer (some ⟨g, 0, none⟩) := by simpa using hp
  have hl := run_loadVar_row (P := Tryz.prog) w g 183 183 _ (0, 0) _ hg.out Tryz.underlying183 rfl (by rw [three_size]; simp [hP])
  simp [results, h, hp', asAddr, hl]
theorem ret_tri2 {fn : Func} {R : Ending → World → Prop} {a : Act} {w : World} {p t : Tmp} (h : fn.results = #[.cell p 183, .tmp t]) (g : Nat) (P : List Int) (hP : P.length = 3) (hp : a.tmps.getD p undef = .pointer (some ⟨g, 0, none⟩))
    (hg : Hid (Tri w g P)) (hd : a.defers = []) (hR : R (.returned (.tuple #[.agg (ints P).toArray, a.tmps.getD t undef])) w) : bodyPost Tryz.prog fn R .ret a w :=
  bodyPost_ret (results_tri2 h _ _ g P hP hp hg) hd hR

/-! ### An element of several cells in the midst of a block -/
section
variable {P : Program}
theorem run_load_at (w : World) (ty : TypeId) (b o : Nat) (cs : List Value) (d : TypeDesc) (hc : ∀ j u, cs[j]? = some u → w.cell? ⟨b, o + j, none⟩ = some u)
    (hd : (match d with | .struct _ | .array _ _ => true | _ => false) = true) (hu : P.underlying ty = some d) (hi : (P.info? ty).map (·.size) = some cs.length) :
    (loadVar ty ⟨b, o, none⟩).run P w = .ok (.agg cs.toArray) w := by
  have hl : (loadCells ⟨b, o, none⟩ cs.length).run P w = .ok cs.toArray w :=
    run_loadCells_list (P := P) w ⟨b, o, none⟩ cs fun j v hv => by rw [Addr.add_lit]; exact hc j v hv
  cases hq : P.info? ty with
  | none => simp [hq] at hi
  | some i =>
    have hs : i.size = cs.length := by simpa [hq] using hi
    have hagg : (isAgg ty).run P w = .ok true w := by
      unfold isAgg
      rw [Sem.run_bind, run_underlying hu w]
      cases d <;> simp_all
    simp [loadVar, Sem.run_bind, hagg, sizeOf, typeInfo, hq, hs, hl]
theorem wpList_load_at {ops : Array Oper} {rest : List Oper} {o : Oper} {a : Act} {w : World} {Q : Exit → Act → World → Prop} (hgd : o.guard = none) (ty : TypeId) (x : Operand) (ho : o.op = .load ty x)
    (b f : Nat) (cs : List Value) (d : TypeDesc) (hx : a.eval x = .pointer (some ⟨b, f, none⟩)) (hc : ∀ j u, cs[j]? = some u → w.cell? ⟨b, f + j, none⟩ = some u)
    (hd : (match d with | .struct _ | .array _ _ => true | _ => false) = true) (hu : P.underlying ty = some d) (hi : (P.info? ty).map (·.size) = some cs.length)
    (h : wpList P ops Q rest (a.put o.dst (.agg cs.toArray)) w) : wpList P ops Q (o :: rest) a w :=
  wpList_plain hgd fun _ hK => by
    unfold Oper.wp execOp
    simp only [ho, hx, Instr.loadAt, Instr.sureAddr, Sem.run_bind, Sem.run_pure, Result.andThen_ok, run_load_at w ty b f cs d hc hd hu hi]
    exact hK _ _ h
theorem wpList_store_at {ops : Array Oper} {rest : List Oper} {o : Oper} {a : Act} {w : World} {Q : Exit → Act → World → Prop} (hgd : o.guard = none) (ty : TypeId) (x y : Operand) (ho : o.op = .store ty x y)
    (g f : Nat) (cells : Array Value) (hx : a.eval x = .pointer (some ⟨g, f, none⟩)) (hy : a.eval y = .agg cells) (t : TypeId) (cur : Array Value) (hg : w.heap[g]? = some (.cells cur t (0, 0)))
    (hi : (P.info? ty).map (·.size) = some cells.size) (hfit : f + cells.size ≤ cur.size) (h1 : ∀ v ∈ cells.toList, v.oneCell' = true)
    (h : wpList P ops Q rest (a.put o.dst undef) (w.setRow g (cur.toList.take f ++ cells.toList ++ cur.toList.drop (f + cells.size)).toArray)) : wpList P ops Q (o :: rest) a w :=
  wpList_plain hgd fun _ hK => by
    have hs := run_storeCells_at P g f t cells.toList 0 cur w hg (by simpa using hfit) h1
    have hrun : (storeVar ty ⟨g, f, none⟩ (.agg cells)).run P w = .ok () (w.setRow g (cur.toList.take f ++ cells.toList ++ cur.toList.drop (f + cells.size)).toArray) := by
      cases hq : P.info? ty with
      | none => simp [hq] at hi
      | some i =>
        have hsz : cells.size = i.size := by simp [hq] at hi; omega
        simp only [Nat.add_zero, Array.length_toList] at hs
        simp [storeVar, sizeOf, typeInfo, hq, Value.cells, ← hsz, hs]
    unfold Oper.wp execOp
    simp only [ho, hx, hy, Instr.storeAt, Instr.sureAddr, Sem.run_bind, Sem.run_pure, Result.andThen_ok, hrun]
    exact hK _ _ h
end

/-! ### Rows of such elements, the call's own -/

/-- The call's own row of elements of m ints each. -/
def RowN (w : World) (B : Nat) (t : TypeId) (m : Nat) (v : Value) (M : List (List Int)) : Prop :=
  (∀ l ∈ M, l.length = m) ∧ w.ownsRow B t m v M.length (ints M.flatten)

theorem rowK_mem {M : List (List Int)} {k : Nat} (h : k < M.length) : rowK M k ∈ M := by
  simp [rowK, List.getD, h]
theorem flat_length (m : Nat) : ∀ M : List (List Int), (∀ l ∈ M, l.length = m) → M.flatten.length = M.length * m
  | [], _ => by simp
  | l :: M, h => by
    rw [List.flatten_cons, List.length_append, flat_length m M (fun x hx => h x (by simp [hx])), h l (by simp), List.length_cons, Nat.succ_mul]; omega
theorem flat_get (m : Nat) : ∀ (M : List (List Int)) (_ : ∀ l ∈ M, l.length = m) (k j : Nat), k < M.length → j < m → M.flatten[k * m + j]? = (rowK M k)[j]?
  | [], _, k, j, hk, _ => by simp at hk
  | l :: M, h, 0, j, _, hj => by
    simp only [Nat.zero_mul, Nat.zero_add, List.flatten_cons]
    rw [List.getElem?_append_left (by rw [h l (by simp)]; exact hj)]
    rfl
  | l :: M, h, k + 1, j, hk, hj => by
    have hl := h l (by simp)
    rw [List.flatten_cons, List.getElem?_append_right (by rw [hl, Nat.succ_mul]; omega), hl, show (k + 1) * m + j - m = k * m + j by rw [Nat.succ_mul]; omega]
    rw [flat_get m M (fun x hx => h x (by simp [hx])) k j (by simpa using hk) hj]
    rfl
theorem flat_set (m : Nat) : ∀ (M : List (List Int)) (_ : ∀ l ∈ M, l.length = m) (k : Nat) (l' : List Int), k < M.length → l'.length = m → (M.set k l').flatten = M.flatten.take (k * m) ++ l' ++ M.flatten.drop (k * m + m)
  | [], _, k, _, hk, _ => by simp at hk
  | l :: M, h, 0, l', _, hl' => by
    have hl := h l (by simp)
    simp [hl]
  | l :: M, h, k + 1, l', hk, hl' => by
    have hl := h l (by simp)
    rw [List.set_cons_succ, List.flatten_cons, List.flatten_cons, flat_set m M (fun x hx => h x (by simp [hx])) k l' (by simpa using hk) hl']
    have e : (k + 1) * m = l.length + k * m := by rw [Nat.succ_mul, hl]; omega
    rw [e, List.take_length_add_append, Nat.add_assoc, List.drop_length_add_append]
    simp [List.append_assoc]

section
variable {w w' : World} {B m D : Nat} {t : TypeId} {v : Value} {M : List (List Int)}
theorem RowN.lt (h : RowN w B t m v M) : ∀ k, v.ownBlock = some k → B ≤ k ∧ k < w.heap.size := h.2.lt
theorem RowN.slice (h : RowN w B t m v M) : ∃ A c, v = .slice A M.length c := by
  rcases h.2.2 with ⟨e, h0⟩ | ⟨g, cap, cur, e, _⟩
  · exact ⟨none, 0, by rw [e, h0]⟩
  · exact ⟨_, cap, e⟩
theorem RowN.same (h : RowN w B t m v M) (hk : ∀ k, v.ownBlock = some k → w'.heap[k]? = w.heap[k]?) : RowN w' B t m v M := by
  refine ⟨h.1, h.2.1, ?_⟩
  rcases h.2.2 with e | ⟨g, cap, cur, rfl, hb, hg, rest⟩
  · exact .inl e
  · exact .inr ⟨g, cap, cur, rfl, hb, (hk g rfl).trans hg, rest⟩
theorem RowN.below (h : RowN w B t m v M) (hb : Below D w w') (hD : ∀ k, v.ownBlock = some k → k < D) : RowN w' B t m v M := h.same fun k hk => hb.block k (hD k hk)
theorem RowN.grown {row : Option Nat} (h : RowN w B t m v M) (hg : w.grownBy w' row) (hr : ∀ k, v.ownBlock = some k → row ≠ some k) : RowN w' B t m v M :=
  h.same fun k hk => hg.block k (h.lt k hk).2 fun e => hr k hk e.symm
theorem RowN.alloc (h : RowN w B t m v M) (o : Obj) : RowN (w.alloc o) B t m v M := h.same fun k hk => Below.heap_alloc w o k (h.lt k hk).2
theorem RowN.less {B' : Nat} (h : RowN w B t m v M) (hB : B' ≤ B) : RowN w B' t m v M := by
  refine ⟨h.1, h.2.1, ?_⟩
  rcases h.2.2 with e | ⟨g, cap, cur, e, hb, rest⟩
  · exact .inl e
  · exact .inr ⟨g, cap, cur, e, by omega, rest⟩
/-- The element k is there to be loaded. -/
theorem RowN.elem (h : RowN w B t m v M) {k : Nat} (hk : k < M.length) : ∃ g c, v = .slice (some ⟨g, 0, none⟩) M.length c ∧ B ≤ g ∧ g < w.heap.size ∧ M.length ≤ c ∧ c ≤ maxLen ∧ (rowK M k).length = m ∧
    ∀ j u, (ints (rowK M k))[j]? = some u → w.cell? ⟨g, k * m + j, none⟩ = some u := by
  rcases h.2.2 with ⟨_, h0⟩ | ⟨g, c, cur, rfl, hB, hg, hc, hm, hs, ht⟩
  · omega
  · have hrow := h.1 _ (rowK_mem hk)
    refine ⟨g, c, rfl, hB, (Array.getElem?_eq_some_iff.1 hg).1, hc, hm, hrow, fun j u hu => ?_⟩
    have hj : j < m := by
      have := (List.getElem?_eq_some_iff.1 hu).1
      rw [ints_length, hrow] at this
      exact this
    have hlt : k * m + j < M.length * m := by
      have : (k + 1) * m ≤ M.length * m := Nat.mul_le_mul_right _ hk
      rw [Nat.succ_mul] at this; omega
    rw [cell_of_row w g _ cur _ _ hg]
    have e : (ints M.flatten)[k * m + j]? = some u := by
      rw [← hu]
      simp only [ints, List.getElem?_map]
      rw [flat_get m M h.1 k j hk hj]
    rw [← ht, List.getElem?_take, if_pos hlt] at e
    simpa using e
/-- The element k stored anew. -/
theorem RowN.stored {n c g : Nat} (h : RowN w B t m (.slice (some ⟨g, 0, none⟩) n c) M) {k : Nat} (hk : k < M.length) (l' : List Int) (hl : l'.length = m) :
    ∃ cur, w.heap[g]? = some (.cells cur t (0, 0)) ∧ k * m + (ints l').toArray.size ≤ cur.size ∧
      RowN (w.setRow g (cur.toList.take (k * m) ++ (ints l').toArray.toList ++ cur.toList.drop (k * m + (ints l').toArray.size)).toArray) B t m (.slice (some ⟨g, 0, none⟩) n c) (M.set k l') ∧
      w.grownBy (w.setRow g (cur.toList.take (k * m) ++ (ints l').toArray.toList ++ cur.toList.drop (k * m + (ints l').toArray.size)).toArray) (some g) := by
  rcases h.2.2 with ⟨e, _⟩ | ⟨g', c', cur, e, hB, hg, hc, hm, hs, ht⟩
  · cases e
  · injection e with e1 e2 e3
    injection e1 with e1
    injection e1 with e1
    subst e1; subst e3
    have hsz : (ints l').toArray.size = m := by simp [hl]
    have hkm : k * m + m ≤ M.length * m := by
      have : (k + 1) * m ≤ M.length * m := Nat.mul_le_mul_right _ hk
      rw [Nat.succ_mul] at this; exact this
    have hnm : M.length * m ≤ c * m := Nat.mul_le_mul_right _ hc
    rw [hsz]
    refine ⟨cur, hg, by omega, ⟨fun l hl' => ?_, ?_, .inr ⟨g, c, _, by rw [List.length_set, e2], hB, setRow_heap w g cur _ t _ hg, by simpa using hc, hm, ?_, ?_⟩⟩, ⟨rfl, rfl, rfl, by simp, fun i _ hi => setRow_other w g i _ (fun e => hi (by simp [e]))⟩⟩
    · rcases List.mem_or_eq_of_mem_set hl' with h1 | h1
      · exact h.1 l h1
      · rw [h1, hl]
    · rw [ints_length, flat_length m _ (fun l hl' => by
        rcases List.mem_or_eq_of_mem_set hl' with h1 | h1
        · exact h.1 l h1
        · rw [h1, hl])]
    · simp only [List.size_toArray, List.length_append, List.length_take, List.length_drop, Array.length_toList, ints_length, hl]
      omega
    · rw [flat_set m M h.1 k l' hk hl, List.length_set]
      have hf := flat_length m M h.1
      simp only [ints, List.map_append, List.map_take, List.map_drop]
      have ht' : cur.toList.take (M.length * m) = M.flatten.map (Value.int .i64) := ht
      rw [← ht']
      apply List.ext_getElem?
      intro j
      simp only [List.getElem?_take, List.getElem?_append, List.length_append, List.length_take, List.length_map, List.getElem?_drop, Array.length_toList, hl]
      rw [show min (k * m) (min (M.length * m) cur.size) = k * m by omega, show min (k * m) cur.size = k * m by omega]
      repeat' split
      all_goals first | rfl | omega | (congr 1; omega)
end

theorem store_elem {ops : Array Oper} {rest : List Oper} {o : Oper} {a : Act} {w : World} {Q : Exit → Act → World → Prop} (hgd : o.guard = none) (x y : Operand) (t : TypeId) (ho : o.op = .store t x y)
    (g n c B k m : Nat) (M : List (List Int)) (l' : List Int) (h : Hid (RowN w B t m (.slice (some ⟨g, 0, none⟩) n c) M)) (hk : k < M.length) (hl : l'.length = m) (hi : (Tryz.prog.info? t).map (·.size) = some m)
    (hx : a.eval x = .pointer (some ⟨g, k * m, none⟩)) (hy : a.eval y = .agg (ints l').toArray)
    (next : ∀ w', Hid (RowN w' B t m (.slice (some ⟨g, 0, none⟩) n c) (M.set k l')) → w.grownBy w' (some g) → wpList Tryz.prog ops Q rest (a.put o.dst undef) w') : wpList Tryz.prog ops Q (o :: rest) a w := by
  obtain ⟨cur, hg, hfit, hrow, hgr⟩ := h.out.stored hk l' hl
  exact wpList_store_at hgd t x y ho g (k * m) (ints l').toArray hx hy t cur hg (by rw [hi]; simp [hl]) hfit (fun v hv => ints_oneCell l' v (by simpa using hv)) (next _ hrow hgr)
theorem load_elem {ops : Array Oper} {rest : List Oper} {o : Oper} {a : Act} {w : World} {Q : Exit → Act → World → Prop} (hgd : o.guard = none) (x : Operand) (t : TypeId) (ho : o.op = .load t x)
    (d : TypeDesc) (hd : (match d with | .struct _ | .array _ _ => true | _ => false) = true) (hu : Tryz.prog.underlying t = some d) (g n c B k m : Nat) (M : List (List Int)) (h : Hid (RowN w B t m (.slice (some ⟨g, 0, none⟩) n c) M)) (hk : k < M.length) (hi : (Tryz.prog.info? t).map (·.size) = some m)
    (hx : a.eval x = .pointer (some ⟨g, k * m, none⟩))
    (next : wpList Tryz.prog ops Q rest (a.put o.dst (.agg (ints (rowK M k)).toArray)) w) : wpList Tryz.prog ops Q (o :: rest) a w := by
  obtain ⟨g', c', e, _, _, _, _, hlen, hc⟩ := h.out.elem hk
  injection e with e1 _ _
  injection e1 with e1
  injection e1 with e1
  subst e1
  exact wpList_load_at hgd t x ho g (k * m) (ints (rowK M k)) d hx hc hd hu (by rw [hi, ints_length, hlen]) next
end Go.Proofs.YtehadbpbkenccaaGreatDoor

namespace Go.Proofs.YtehadbpbkenccaaGreatDoor
open Go.ChangeShapes Go.WideShapes Go.ChangeAt Go.RowKit Go.Deep

/-- What a proof's frame tells of a slice of slices that came in. -/
def IsRows (w : World) (a : Option Addr) (len cap : Nat) (L : List (List Int)) : Prop := RdS w w.heap.size a len L ∧ len ≤ cap ∧ cap ≤ 9223372036854775807

theorem rows_in {H : Type} {enc : TypeId × Value → H} {w : World} {fuel : Nat} {held : Bool} {a : Option Addr} {len cap : Nat} {x : DataW H × List MemPlace}
    (h : DataW.trod enc Tryz.prog w 0 (fun _ => true) held fuel 145 [.slice a len cap] = some x) : ∃ L, IsRows w a len cap L := by
  rcases open_int_rows Tryz.underlying145 Tryz.underlying41 Tryz.underlying3 (by kernel_rfl) (by kernel_rfl) h with ⟨hcs, _⟩ | ⟨ad, l, c, A, L, C, Z, hcs, _, hl, hm, _, hr⟩
  · simp at hcs
    obtain ⟨rfl, rfl, rfl⟩ := hcs
    exact ⟨[], RdS.nil, Nat.le_refl _, by omega⟩
  · simp at hcs
    obtain ⟨rfl, rfl, rfl⟩ := hcs
    have hm' : cap ≤ 9223372036854775807 := by unfold maxLen at hm; omega
    have hrow : ∀ k, k < len → rowK ((List.range len).map fun r => (Z r).take (L r)) k = (Z k).take (L k) := fun k hk => by simp [rowK, List.getD, hk]
    refine ⟨(List.range len).map fun r => (Z r).take (L r), ⟨by simp, fun hp => ?_⟩, hl, hm'⟩
    obtain ⟨b, off, spot⟩ := ad
    have h0 := (hr 0 (by omega)).1
    have hs : spot = none := by simpa [Addr.add] using World.cell?_spot h0
    subst hs
    refine ⟨b, off, rfl, World.block_lt_of_cell? w ⟨b, off, none⟩ (by simpa [Addr.add] using h0), fun k hk => ?_⟩
    obtain ⟨h1, h2, h3, h4, h5, h6, h7⟩ := hr k (by omega)
    rw [Addr.add_lit] at h1
    have hlen : ((Z k).take (L k)).length = L k := by rw [List.length_take]; omega
    rw [hrow k hk, hlen]
    refine ⟨A k, C k, h1, ⟨hlen, fun hpos => ?_⟩, h2, by unfold maxLen at h3; omega⟩
    cases hA : A k with
    | none => have := h6 hA; omega
    | some a' =>
      obtain ⟨b', off', spot'⟩ := a'
      have hcs := (h7 _ hA).2
      have hc0 := hcs 0 (by omega)
      have hs' : spot' = none := by simpa [Addr.add] using World.cell?_spot hc0
      subst hs'
      refine ⟨b', off', rfl, World.block_lt_of_cell? w ⟨b', off', none⟩ (by simpa [Addr.add] using hc0), fun j hj => ?_⟩
      have := hcs j (by omega)
      rw [Addr.add_lit] at this
      rw [this]
      simp [List.getD, hj]
end Go.Proofs.YtehadbpbkenccaaGreatDoor

namespace Go.Proofs.YtehadbpbkenccaaGreatDoor
open Go.ChangeShapes Go.WideShapes Go.ChangeAt Go.RowKit

theorem ring_size' : (Tryz.prog.info? 31).map (·.size) = some 7 := ring_size
theorem store_blk {ops : Array Oper} {rest : List Oper} {o : Oper} {a : Act} {w : World} {Q : Exit → Act → World → Prop} (hgd : o.guard = none) (t : TypeId) (m : Nat) (hsz : (Tryz.prog.info? t).map (·.size) = some m) (x y : Operand) (ho : o.op = .store t x y)
    (g : Nat) (old P : List Int) (hold : old.length = m) (hP : P.length = m) (hx : a.eval x = .pointer (some ⟨g, 0, none⟩)) (hy : a.eval y = .agg (ints P).toArray) (hg : Hid (Blk t w g old))
    (h : ∀ w', Hid (Blk t w' g P) → w.grownBy w' (some g) → w'.heap.size = w.heap.size → wpList Tryz.prog ops Q rest (a.put o.dst undef) w') : wpList Tryz.prog ops Q (o :: rest) a w := by
  refine wpList_store_row hgd t x y ho g (ints P).toArray hx hy t (ints old).toArray hg.out (by rw [hsz]; simp [hP]) (by simp [hP, hold]) (ints_oneCellB P) (h _ ?_ ?_ ?_)
  · exact setRow_heap w g _ _ _ _ hg.out
  · exact ⟨rfl, rfl, rfl, by simp, fun k _ hk => setRow_other w g k _ (fun e => hk (by simp [e]))⟩
  · simp
theorem load_blk {ops : Array Oper} {rest : List Oper} {o : Oper} {a : Act} {w : World} {Q : Exit → Act → World → Prop} (hgd : o.guard = none) (t : TypeId) (m : Nat) (hsz : (Tryz.prog.info? t).map (·.size) = some m) (d : TypeDesc) (hd : (match d with | .struct _ | .array _ _ => true | _ => false) = true) (hu : Tryz.prog.underlying t = some d)
    (x : Operand) (ho : o.op = .load t x) (g : Nat) (P : List Int) (hP : P.length = m) (hx : a.eval x = .pointer (some ⟨g, 0, none⟩)) (hg : Hid (Blk t w g P))
    (h : wpList Tryz.prog ops Q rest (a.put o.dst (.agg (ints P).toArray)) w) : wpList Tryz.prog ops Q (o :: rest) a w :=
  wpList_load_row hgd t x ho g hx t _ (0, 0) d hg.out hu (by cases d <;> first | rfl | cases hd) (by rw [hsz]; simp [hP]) h
theorem results_blk2 (t : TypeId) (m : Nat) (hsz : (Tryz.prog.info? t).map (·.size) = some m) (d : TypeDesc) (hd : (match d with | .struct _ | .array _ _ => true | _ => false) = true) (hu : Tryz.prog.underlying t = some d) {fn : Func} {p s : Tmp} (h : fn.results = #[.cell p t, .tmp s]) (tmps : Array Value) (w : World) (g : Nat) (P : List Int) (hP : P.length = m)
    (hp : tmps.getD p undef = .pointer (some ⟨g, 0, none⟩)) (hg : Hid (Blk t w g P)) : (results fn tmps).run Tryz.prog w = .ok (.tuple #[.agg (ints P).toArray, tmps.getD s undef]) w := by
  have hp' : tmps[p]?.getD undef = .pointer (some ⟨g, 0, none⟩) := by simpa using hp
  have hl := run_loadVar_row (P := Tryz.prog) w g t t _ (0, 0) d hg.out hu (by cases d <;> first | rfl | cases hd) (by rw [hsz]; simp [hP])
  simp [results, h, hp', asAddr, hl]
theorem ret_blk2 (t : TypeId) (m : Nat) (hsz : (Tryz.prog.info? t).map (·.size) = some m) (d : TypeDesc) (hd : (match d with | .struct _ | .array _ _ => true | _ => false) = true) (hu : Tryz.prog.underlying t = some d) {fn : Func} {R : Ending → World → Prop} {a : Act} {w : World} {p s : Tmp} (h : fn.results = #[.cell p t, .tmp s]) (g : Nat) (P : List Int) (hP : P.length = m) (hp : a.tmps.getD p undef = .pointer (some ⟨g, 0, none⟩))
    (hg : Hid (Blk t w g P)) (hdf : a.defers = []) (hR : R (.returned (.tuple #[.agg (ints P).toArray, a.tmps.getD s undef])) w) : bodyPost Tryz.prog fn R .ret a w :=
  bodyPost_ret (results_blk2 t m hsz d hd hu h _ _ g P hP hp hg) hdf hR
end Go.Proofs.YtehadbpbkenccaaGreatDoor

namespace Go.Proofs.YtehadbpbkenccaaGreatDoor
open Go.ChangeShapes Go.WideShapes Go.ChangeAt Go.RowKit

def allB (q : List Int → Bool) (L : List (List Int)) : Bool := L.all q
def allL (q : List Int → Bool) (L : List (List Int)) : List (List Int) := if allB q L then L else []
theorem allB_iff {q : List Int → Bool} {L : List (List Int)} : allB q L = true ↔ ∀ l ∈ L, q l = true := by simp [allB]
theorem all_yes {q : List Int → Bool} {L : List (List Int)} (h : ∀ l ∈ L, q l = true) : allB q L = true ∧ allL q L = L := by
  have := allB_iff.2 h
  exact ⟨this, by rw [allL, if_pos this]⟩
theorem all_no {q : List Int → Bool} {L : List (List Int)} {k : Nat} (hk : k < L.length) (h : q (rowK L k) = false) : allB q L = false ∧ allL q L = [] := by
  have : allB q L = false := by
    rw [Bool.eq_false_iff]
    intro hh
    have := allB_iff.1 hh _ (rowK_mem hk)
    rw [h] at this
    cases this
  exact ⟨this, by rw [allL, if_neg (by simp [this])]⟩
def AllTo (q : List Int → Bool) (L : List (List Int)) (k : Nat) : Prop := ∀ j, j < k → q (rowK L j) = true
theorem allTo_step {q : List Int → Bool} {L : List (List Int)} {k : Nat} (h : AllTo q L k) (hk : q (rowK L k) = true) : AllTo q L (k + 1) := fun j hj => by
  rcases Nat.lt_succ_iff_lt_or_eq.1 hj with hj | rfl
  · exact h j hj
  · exact hk
theorem allTo_all {q : List Int → Bool} {L : List (List Int)} (h : AllTo q L L.length) : ∀ l ∈ L, q l = true := fun l hl => by
  obtain ⟨j, hj, rfl⟩ := List.getElem_of_mem hl
  have := h j hj
  simpa [rowK, List.getD, hj] using this

/-- The first k rows, z behind. -/
def mixZ (z : List Int) (L : List (List Int)) (m k : Nat) : List (List Int) := L.take k ++ List.replicate (m - k) z
theorem mixZ_length (z : List Int) (L : List (List Int)) (m k : Nat) (hL : L.length = m) (hk : k ≤ m) : (mixZ z L m k).length = m := by simp [mixZ]; omega
theorem mixZ_step (z : List Int) (L : List (List Int)) (m k : Nat) (hL : L.length = m) (hk : k < m) : (mixZ z L m k).set k (rowK L k) = mixZ z L m (k + 1) := by
  unfold mixZ
  have hl : (L.take k).length = k := by simp; omega
  rw [List.set_append_right _ _ (by omega), hl, Nat.sub_self]
  obtain ⟨d, hd⟩ : ∃ d, m - k = d + 1 := ⟨m - k - 1, by omega⟩
  rw [hd, show m - (k + 1) = d by omega, List.replicate_succ, List.set_cons_zero, List.take_succ_eq_append_getElem (by omega), List.append_assoc]
  simp [rowK, List.getD, show k < L.length by omega]
theorem mixZ_full (z : List Int) (L : List (List Int)) (m : Nat) (hL : L.length = m) : mixZ z L m m = L := by simp [mixZ, ← hL]
theorem made_cells (z : Array Value) (c : Value) (hz : 0 < z.size) (h : ∀ i, i < z.size → z[i]! = c) (n : Nat) : (madeCells z n).toList = List.replicate n c := by
  apply List.ext_getElem?
  intro j
  by_cases hj : j < n
  · simp only [madeCells, Array.toList_map, Array.toList_range, List.getElem?_map, List.getElem?_range hj, List.getElem?_replicate, if_pos hj, Option.map_some]
    rw [h _ (Nat.mod_lt _ hz)]
  · simp [madeCells, hj]
end Go.Proofs.YtehadbpbkenccaaGreatDoor

namespace Go.Proofs.YtehadbpbkenccaaGreatDoor
open Go.ChangeShapes Go.WideShapes Go.ChangeAt Go.RowKit

/-- What is read: the three, or three noughts. -/
def thrL (n : Int) (l : List Int) : List Int := if Thr n l then l else [0, 0, 0]
theorem thrL_length (n : Int) (l : List Int) : (thrL n l).length = 3 := by
  unfold thrL
  split
  · rename_i h; exact h.1
  · rfl
theorem thr_yes {n : Int} {l : List Int} (h : Thr n l) : thr n l = true ∧ thrL n l = l := ⟨by simpa [thr] using h, by rw [thrL, if_pos h]⟩
theorem thr_no {n : Int} {l : List Int} (h : ¬ Thr n l) : thr n l = false ∧ thrL n l = [0, 0, 0] := ⟨by simpa [thr] using h, by rw [thrL, if_neg h]⟩

theorem thr_pts (n : Int) (l : List Int) : Thr n l ↔ l.length = 3 ∧ Pts n l := Iff.rfl

abbrev zero3 : List Int := [0, 0, 0]
theorem new_tri (w : World) : Tri (w.alloc (.cells #[.int .i64 0, .int .i64 0, .int .i64 0] 183)) w.heap.size zero3 := heap_alloc_new w _

set_option maxRecDepth 10000 in
set_option maxHeartbeats 1000000 in
theorem readThree_any (A : Option Addr) (m c H : Nat) (l : List Int) (n : Int) (w : World) (h : Rd w H A m l) (hH : H ≤ w.heap.size) (hmc : m ≤ c) (hcm : c ≤ 9223372036854775807) :
    Calls Tryz.prog 170 #[.int .i64 n, .slice A m c] w fun e w' => e = .returned (.tuple #[.agg (ints (thrL n l)).toArray, .bool (thr n l)]) ∧ Below w.heap.size w w' := by
  have HL := Lib.hid h.len
  have hw0 : Hid (Tri (w.alloc (.cells #[.int .i64 0, .int .i64 0, .int .i64 0] 183)) w.heap.size zero3) := Lib.hid (new_tri w)
  have hb0 : Below w.heap.size w (w.alloc (.cells #[.int .i64 0, .int .i64 0, .int .i64 0] 183)) := (Below.refl _ _).alloc (Nat.le_refl _) _
  have hr0 : Rd (w.alloc (.cells #[.int .i64 0, .int .i64 0, .int .i64 0] 183)) H A m l := h.below (hb0.mono hH)
  have HS0 := Lib.hid (show w.heap.size < (w.alloc (.cells #[.int .i64 0, .int .i64 0, .int .i64 0] 183)).heap.size by simp)
  clear h
  go_enter Tryz.func170, Tryz.ntmps170
  by_cases hm3 : m = 3
  · subst hm3
    have HPT := Lib.hid (pointsIn_any A 3 c H l n _ hr0 (by omega) hmc hcm)
    go_wp2_with fail
    generalize w.alloc (.cells #[.int .i64 0, .int .i64 0, .int .i64 0] 183) = W0 at *
    generalize hB : w.heap.size = B at *
    have HB := Lib.hid hB
    clear hB
    by_cases hp : Pts n l
    · have HT := Lib.hid (thr_yes ((thr_pts n l).2 ⟨HL.out, hp⟩))
      rw [pts_yes hp] at HPT
      obtain ⟨x, y, z, rfl⟩ := of_three HL.out
      obtain ⟨b, o, rfl, hbH, c0, c1, c2⟩ := rd3 hr0
      clear hr0 hp
      go_wp2_with (go_at_call 88; refine HPT.out.mono ?_; rintro e w' ⟨rfl, rfl⟩)
      go_still_tail 10, (by kernel_rfl)
      change wpList _ _ _ _ _ w'.drew
      refine store_tri rfl (.tmp 4) (.tmp 25) rfl B zero3 [x, y, z] rfl rfl rfl rfl (w := w'.drew) hw0 ?_
      intro w6 HB6 hg6 _
      go_wp2
      exact ret_tri2 rfl B [x, y, z] rfl rfl HB6 rfl ⟨by rw [HT.out.1, HT.out.2]; rfl, by rw [HB.out]; exact hb0.drew.grown hg6 (by have := HS0.out; simp; omega) (by simp)⟩
    · have TF := Lib.hid (thr_no (n := n) (l := l) (fun hh => hp hh.2))
      rw [pts_no hp] at HPT
      clear hr0 hp
      go_wp2_with (first
        | (go_at_call 88; refine HPT.out.mono ?_; rintro e w' ⟨rfl, rfl⟩)
        | (refine store_tri rfl _ _ rfl B zero3 zero3 rfl rfl rfl rfl hw0 ?_; intro w6 HB6 hg6 _))
      exact ret_tri2 rfl B zero3 rfl rfl HB6 rfl ⟨by rw [TF.out.1, TF.out.2]; rfl, by rw [HB.out]; exact hb0.grown hg6 (by have := HS0.out; omega) (by simp)⟩
  · have TF := Lib.hid (thr_no (n := n) (l := l) (fun hh => hm3 (by rw [← HL.out]; exact hh.1)))
    have e0 : ((m : Int) != 3) = true := by simp; omega
    clear hr0 hm3
    go_wp2_with (refine store_tri rfl _ _ rfl w.heap.size zero3 zero3 rfl rfl rfl rfl hw0 ?_; intro w6 HB6 hg6 _)
    exact ret_tri2 rfl w.heap.size zero3 rfl rfl HB6 rfl ⟨by rw [TF.out.1, TF.out.2]; rfl, hb0.grown hg6 (by have := HS0.out; omega) (by simp)⟩
end Go.Proofs.YtehadbpbkenccaaGreatDoor

namespace Go.Proofs.YtehadbpbkenccaaGreatDoor
open Go.ChangeShapes Go.WideShapes Go.ChangeAt Go.RowKit

theorem made_thr (n : Nat) : (madeCells #[Value.int .i64 0, Value.int .i64 0, Value.int .i64 0] (n * 3)).toList = ints (List.replicate n [0, 0, 0]).flatten := by
  rw [made_cells _ (.int .i64 0) (by decide) (fun i hi => by
    simp only [List.size_toArray, List.length_cons, List.length_nil] at hi
    obtain rfl | rfl | rfl : i = 0 ∨ i = 1 ∨ i = 2 := by omega
    all_goals rfl)]
  rw [show ([0, 0, 0] : List Int) = List.replicate 3 0 from rfl, List.flatten_replicate_replicate, ints, List.map_replicate]

end Go.Proofs.YtehadbpbkenccaaGreatDoor

namespace Go.Proofs.YtehadbpbkenccaaGreatDoor
open Go.ChangeShapes Go.WideShapes Go.ChangeAt Go.RowKit

/-- At most forty threes of n points, three to six. -/
def Tel (n : Int) (L : List (List Int)) : Prop := 3 ≤ n ∧ n ≤ 6 ∧ L.length ≤ 40 ∧ ∀ l ∈ L, Thr n l
instance (n : Int) (L : List (List Int)) : Decidable (Tel n L) := by unfold Tel; infer_instance
def tel (n : Int) (L : List (List Int)) : Bool := decide (Tel n L)
def telL (n : Int) (L : List (List Int)) : List (List Int) := if Tel n L then L else []
theorem tel_yes {n : Int} {L : List (List Int)} (h : Tel n L) : tel n L = true ∧ telL n L = L := ⟨by simpa [tel] using h, by rw [telL, if_pos h]⟩
theorem tel_no {n : Int} {L : List (List Int)} (h : ¬ Tel n L) : tel n L = false ∧ telL n L = [] := ⟨by simpa [tel] using h, by rw [telL, if_neg h]⟩
def TelTo (n : Int) (L : List (List Int)) (k : Nat) : Prop := ∀ j, j < k → Thr n (rowK L j)
theorem tel_step {n : Int} {L : List (List Int)} {k : Nat} (h : TelTo n L k) (hk : Thr n (rowK L k)) : TelTo n L (k + 1) := fun j hj => by
  rcases Nat.lt_succ_iff_lt_or_eq.1 hj with hj | rfl
  · exact h j hj
  · exact hk
theorem tel_all {n : Int} {L : List (List Int)} (h : TelTo n L L.length) : ∀ l ∈ L, Thr n l := fun l hl => by
  obtain ⟨j, hj, rfl⟩ := List.getElem_of_mem hl
  have := h j hj
  simpa [rowK, List.getD, hj] using this
theorem tel_stop {n : Int} {L : List (List Int)} {k : Nat} (hk : k < L.length) (h : ¬ Thr n (rowK L k)) : ¬ Tel n L := fun ht => h (ht.2.2.2 _ (rowK_mem hk))

theorem asked_any (n : Int) (w : World) :
    Calls Tryz.prog 179 #[.int .i64 n] w fun e w' => e = .returned (.bool (decide (3 ≤ n) && decide (n ≤ 6))) ∧ w = w' := by
  by_cases h : 3 ≤ n
  all_goals
    go_enter Tryz.func179, Tryz.ntmps179
    go_wp2
    all_goals
      go_ret
      exact ⟨by first | (simp_all; done) | (simp_all; omega), rfl⟩

/-- The first k threes, noughts behind. -/
def mixT (L : List (List Int)) (m k : Nat) : List (List Int) := L.take k ++ List.replicate (m - k) zero3
theorem mixT_length (L : List (List Int)) (m k : Nat) (hL : L.length = m) (hk : k ≤ m) : (mixT L m k).length = m := by simp [mixT]; omega
theorem mixT_step (L : List (List Int)) (m k : Nat) (hL : L.length = m) (hk : k < m) : (mixT L m k).set k (rowK L k) = mixT L m (k + 1) := by
  unfold mixT
  have hl : (L.take k).length = k := by simp; omega
  rw [List.set_append_right _ _ (by omega), hl, Nat.sub_self]
  obtain ⟨d, hd⟩ : ∃ d, m - k = d + 1 := ⟨m - k - 1, by omega⟩
  rw [hd, show m - (k + 1) = d by omega, List.replicate_succ, List.set_cons_zero, List.take_succ_eq_append_getElem (by omega), List.append_assoc]
  simp [rowK, List.getD, show k < L.length by omega]
theorem mixT_full (L : List (List Int)) (m : Nat) (hL : L.length = m) : mixT L m m = L := by simp [mixT, ← hL]
theorem made_all (z : Array Value) (c : Value) (hz : 0 < z.size) (h : ∀ i, i < z.size → z[i]! = c) (n : Nat) : (madeCells z n).toList = List.replicate n c := by
  apply List.ext_getElem?
  intro j
  by_cases hj : j < n
  · simp only [madeCells, Array.toList_map, Array.toList_range, List.getElem?_map, List.getElem?_range hj, List.getElem?_replicate, if_pos hj, Option.map_some]
    rw [h _ (Nat.mod_lt _ hz)]
  · simp [madeCells, hj]
theorem made_three (n : Nat) : (madeCells #[Value.int .i64 0, Value.int .i64 0, Value.int .i64 0] (n * 3)).toList = ints (List.replicate n zero3).flatten := by
  rw [made_all _ (.int .i64 0) (by decide) (fun i hi => by
    simp only [List.size_toArray, List.length_cons, List.length_nil] at hi
    obtain rfl | rfl | rfl : i = 0 ∨ i = 1 ∨ i = 2 := by omega
    all_goals rfl)]
  rw [show zero3 = List.replicate 3 0 from rfl, List.flatten_replicate_replicate, ints, List.map_replicate]

end Go.Proofs.YtehadbpbkenccaaGreatDoor

namespace Go.Proofs.YtehadbpbkenccaaGreatDoor
open Go.ChangeShapes Go.WideShapes Go.ChangeAt Go.RowKit

def GrowS (w : World) (B : Nat) (v : Value) (L : List (List Int)) : Prop :=
  ∃ xs : List Value, w.ownsRow B 41 1 v L.length xs ∧ ∀ k, k < L.length → ∃ vk, xs[k]? = some vk ∧ RowV w B vk (rowK L k)

section
variable {w w' : World} {B D : Nat} {v v' vk : Value} {L : List (List Int)} {l : List Int} {xs : List Value}
theorem OwnG.kind (h : OwnG w B v l) {g : Nat} (hg : v.ownBlock = some g) : ∃ cur, w.heap[g]? = some (.cells cur 3 (0, 0)) := by
  rcases h with ⟨rfl, _⟩ | ⟨g', o, c, cur, rfl, hb, hgg, _⟩
  · simp [Value.ownBlock] at hg
  · simp [Value.ownBlock] at hg
    subst hg
    exact ⟨cur, hgg⟩
theorem OwnG.apart {n : Nat} (h : OwnG w B vk l) (ho : w.ownsRow D 41 1 v n xs) : ∀ k, vk.ownBlock = some k → some k ≠ v.ownBlock := by
  intro k hk e
  obtain ⟨cur, hc⟩ := h.kind hk
  rcases ho.2 with ⟨rfl, _⟩ | ⟨g, cap, cur', rfl, _, hg, _⟩
  · cases e
  · simp [Value.ownBlock] at e
    subst e
    rw [hc] at hg
    injection hg with hg
    injection hg with _ ht
    exact absurd ht (by decide)
theorem GrowS.empty (w : World) (hB : B ≤ w.heap.size) : GrowS (w.alloc (.cells #[] 41)) B (.slice (some ⟨w.heap.size, 0, none⟩) 0 0) [] :=
  ⟨[], ⟨by simp, .inr ⟨w.heap.size, 0, #[], rfl, hB, heap_alloc_new w _, Nat.le_refl _, by decide, by simp, by simp⟩⟩, fun k hk => absurd hk (by simp)⟩
theorem GrowS.slice (h : GrowS w B v L) : ∃ A c, v = .slice A L.length c ∧ L.length ≤ c ∧ c ≤ 9223372036854775807 := by
  obtain ⟨xs, h1, _⟩ := h
  rcases h1.2 with ⟨e, h0⟩ | ⟨g, cap, cur, e, _, _, h2, h3, _⟩
  · exact ⟨none, 0, by rw [e, h0], by omega, by omega⟩
  · exact ⟨_, cap, e, h2, by unfold maxLen at h3; omega⟩
theorem GrowS.keep (h : GrowS w B v L) (hk : ∀ k, B ≤ k → k < w.heap.size → w'.heap[k]? = w.heap[k]?) : GrowS w' B v L := by
  obtain ⟨xs, h1, h2⟩ := h
  refine ⟨xs, ⟨h1.1, ?_⟩, fun k hkl => ?_⟩
  · rcases h1.2 with e | ⟨g, cap, cur, e, hb, hg, rest⟩
    · exact .inl e
    · exact .inr ⟨g, cap, cur, e, hb, (hk g hb (Array.getElem?_eq_some_iff.1 hg).1).trans hg, rest⟩
  · obtain ⟨vk, h3, h4⟩ := h2 k hkl
    exact ⟨vk, h3, h4.same fun i hi => hk i (h4.1.lt i hi).1 (h4.1.lt i hi).2⟩
theorem GrowS.below (h : GrowS w B v L) (hb : Below D w w') (hD : w.heap.size ≤ D) : GrowS w' B v L := h.keep fun k _ hk => hb.block k (by omega)
theorem GrowS.alloc (h : GrowS w B v L) (o : Obj) : GrowS (w.alloc o) B v L := h.keep fun k _ hk => Below.heap_alloc w o k hk
theorem GrowS.drew (h : GrowS w B v L) : GrowS w.drew B v L := h
theorem GrowS.drewN (h : GrowS w B v L) (n : Nat) : GrowS (w.drewN n) B v L := h
/-- A row more. -/
theorem GrowS.snoc (h1 : w.ownsRow B 41 1 v L.length xs) (h2 : ∀ k, k < L.length → ∃ vk, xs[k]? = some vk ∧ RowV w B vk (rowK L k)) (hr : RowV w B vk l) {w1 : World} (hg : w1.grownBy w' v.ownBlock) (hs : w.heap.size ≤ w1.heap.size) (h01 : ∀ k, k < w.heap.size → w1.heap[k]? = w.heap[k]?)
    (ho : w'.ownsRow B 41 1 v' (L.length + 1) (xs ++ [vk])) : GrowS w' B v' (L ++ [l]) := by
  have keep : ∀ {u : Value} {m : List Int}, RowV w B u m → RowV w' B u m := fun {u m} hu => hu.same fun k hk => by
    have hlt := (hu.1.lt k hk).2
    rw [hg.block k (by omega) (hu.1.apart h1 k hk), h01 k hlt]
  refine ⟨xs ++ [vk], by rw [List.length_append]; exact ho, fun k hk => ?_⟩
  have hxl : xs.length = L.length := by have := h1.1; omega
  rcases Nat.lt_or_ge k L.length with hlt | hge
  · obtain ⟨u, h3, h4⟩ := h2 k hlt
    refine ⟨u, by rw [List.getElem?_append_left (by omega)]; exact h3, ?_⟩
    have e : rowK (L ++ [l]) k = rowK L k := by simp [rowK, List.getD, List.getElem?_append_left hlt]
    rw [e]; exact keep h4
  · obtain rfl : k = L.length := by simp at hk; omega
    refine ⟨vk, by rw [List.getElem?_append_right (by omega)]; simp [hxl], ?_⟩
    have e : rowK (L ++ [l]) L.length = l := by simp [rowK, List.getD]
    rw [e]; exact keep hr
theorem GrowS.rd {A : Option Addr} {n c : Nat} (h : GrowS w B (.slice A n c) L) : n = L.length ∧ RdS w w.heap.size A n L := by
  obtain ⟨xs, h1, h2⟩ := h
  rcases h1.2 with ⟨e, h0⟩ | ⟨g, cap, cur, e, hB, hg, hc, hm, hs, ht⟩
  · injection e with e1 e2 e3
    subst e1; subst e2
    rw [List.eq_nil_of_length_eq_zero h0]
    exact ⟨rfl, RdS.nil⟩
  · injection e with e1 e2 e3
    subst e1; subst e2; subst e3
    refine ⟨rfl, rfl, fun _ => ⟨g, 0, rfl, (Array.getElem?_eq_some_iff.1 hg).1, fun k hk => ?_⟩⟩
    obtain ⟨vk, h3, h4, A, d, rfl, h5, h6⟩ := h2 k hk
    refine ⟨A, d, ?_, h4.rd.2, h5, h6⟩
    rw [Nat.zero_add, cell_of_row w g _ cur _ _ hg]
    rw [← ht, List.getElem?_take, if_pos (by omega)] at h3
    simpa using h3
end

/-- One row more appended, as a step of a region that draws its order. -/
theorem step_append1 {ops : Array Oper} {o : Oper} {a : Act} {K : Act → World → Prop} {Q : Exit → Act → World → Prop} {E : Prop} (w : World) (hgd : o.guard = none) (s x : Operand)
    (ho : o.op = .call { callee := .builtin .append, args := #[s, x], argTypes := #[145, 145] })
    (B : Nat) (v : Value) (n : Nat) (xs : List Value) (hs : a.eval s = v) (g1 : Nat) (u : Value) (hx : a.eval x = .slice (some ⟨g1, 0, none⟩) 1 1) (hown : w.ownsRow B 41 1 v n xs)
    (hu : w.cell? ⟨g1, 0, none⟩ = some u) (h1 : u.oneCell' = true) (h63 : n ≤ 1048576) (hbase : B ≤ w.heap.size)
    (h : ∀ v' w', Hid (w'.ownsRow B 41 1 v' (n + 1) (xs ++ [u])) → Hid (w.grownBy w' v.ownBlock) → K (a.put o.dst v') w') :
    if Region.wanted o (yielded ops a.tmps) = true then Oper.wp Tryz.prog o a w K Q else E := by
  have hw : Region.wanted o (yielded ops a.tmps) = true := by simp [Region.wanted, hgd]
  rw [if_pos hw]
  obtain ⟨i0, hi, hz0, hz1, hz2⟩ := info_parts row_info
  obtain ⟨v', w', hr, h2, h3, _⟩ := run_append_own (P := Tryz.prog) w B 145 o.type 41 i0 (.slice none 0 0) 1 24 Tryz.underlying145 hi hz0 hz1 hz2 rfl (by decide) v n xs hown ⟨g1, 0, none⟩ 1 1 [u] (by simp)
    (fun j y hj => by
      rcases j with _ | j
      · simp at hj; subst hj; rw [Addr.add_lit]; exact hu
      · simp at hj) (by simpa using h1) (by unfold maxLen; omega) (by omega) hbase
  unfold Oper.wp execOp
  simp only [ho, resolve, invoke, builtin, Sem.run_bind, Sem.run_pure, Result.andThen_ok, List.map_toArray, List.map_cons, List.map_nil, hs, hx, hr]
  exact h v' w' h2 h3

theorem one_cell2 (w : World) (a : Obj) (y : Value) (t : TypeId) : ∀ j u, [y][j]? = some u → ((w.alloc a).alloc (.cells #[y] t)).cell? ((⟨w.heap.size + 1, 0, none⟩ : Addr).add j) = some u := by
  have h := one_cell (w.alloc a) y t
  rwa [show (w.alloc a).heap.size = w.heap.size + 1 by simp] at h
theorem grown_undrew {w w' : World} {r : Option Nat} (h : w.drew.grownBy w' r) : w.grownBy w' r := ⟨h.os, h.tape, h.output, h.size, h.block⟩
/-- A literal row laid, a cell for its value, the value appended. -/
theorem grow_lit {w w5 : World} {B : Nat} {v v' : Value} {L : List (List Int)} {xs : List Value} {k : Nat} (hk : L.length = k) (h1 : w.ownsRow B 41 1 v k xs) (h2 : ∀ k, k < L.length → ∃ vk, xs[k]? = some vk ∧ RowV w B vk (rowK L k)) (hB : B ≤ w.heap.size)
    (l : List Int) (hl : l.length ≤ 1048576) (o : Obj) (ho : w5.ownsRow B 41 1 v' (k + 1) (xs ++ [.slice (some ⟨w.heap.size, 0, none⟩) l.length l.length]))
    (hg : ((w.alloc (.cells (ints l).toArray 3)).alloc o).grownBy w5 v.ownBlock) : GrowS w5 B v' (L ++ [l]) := by
  subst hk
  exact GrowS.snoc (w := w.alloc (.cells (ints l).toArray 3)) (h1.alloc _) (fun j hj => by
    obtain ⟨vk, h3, h4⟩ := h2 j hj
    exact ⟨vk, h3, h4.alloc _⟩) (RowV.lit w hB l hl) hg (by simp) (fun j hj => Below.heap_alloc _ _ _ hj) ho
/-- A row that is there already, a cell for its value, the value appended. -/
theorem grow_row {w w5 : World} {B : Nat} {v v' vk : Value} {L : List (List Int)} {l : List Int} {xs : List Value} {k : Nat} (hk : L.length = k) (h1 : w.ownsRow B 41 1 v k xs) (h2 : ∀ k, k < L.length → ∃ vk, xs[k]? = some vk ∧ RowV w B vk (rowK L k))
    (hr : RowV w B vk l) (o : Obj) (ho : w5.ownsRow B 41 1 v' (k + 1) (xs ++ [vk])) (hg : (w.alloc o).grownBy w5 v.ownBlock) : GrowS w5 B v' (L ++ [l]) := by
  subst hk
  exact GrowS.snoc h1 h2 hr hg (by simp) (fun j hj => Below.heap_alloc _ _ _ hj) ho
end Go.Proofs.YtehadbpbkenccaaGreatDoor

namespace Go.Proofs.YtehadbpbkenccaaGreatDoor
open Go.ChangeShapes Go.WideShapes Go.ChangeAt Go.RowKit

def pick3 (x y z : Nat) : List (List Int) := if x ≠ y ∧ x ≠ z ∧ y ≠ z then [[(x : Int), (y : Int), (z : Int)]] else []
def ez (x y k : Nat) : List (List Int) := (List.range k).flatMap fun z => pick3 x y z
def ey (n x k : Nat) : List (List Int) := (List.range k).flatMap fun y => ez x y n
def ex (n k : Nat) : List (List Int) := (List.range k).flatMap fun x => ey n x n
def everyL (n : Nat) : List (List Int) := ex n n
theorem ez_succ (x y k : Nat) : ez x y (k + 1) = ez x y k ++ pick3 x y k := by simp [ez, List.range_succ]
theorem ey_succ (n x k : Nat) : ey n x (k + 1) = ey n x k ++ ez x k n := by simp [ey, List.range_succ]
theorem ex_succ (n k : Nat) : ex n (k + 1) = ex n k ++ ey n k n := by simp [ex, List.range_succ]
theorem pick3_len (x y z : Nat) : (pick3 x y z).length ≤ 1 := by unfold pick3; split <;> simp
theorem ez_len (x y : Nat) : ∀ k, (ez x y k).length ≤ k
  | 0 => by simp [ez]
  | k + 1 => by rw [ez_succ, List.length_append]; have := ez_len x y k; have := pick3_len x y k; omega
theorem ey_len (n x : Nat) (hn : n ≤ 7) : ∀ k, (ey n x k).length ≤ 7 * k
  | 0 => by simp [ey]
  | k + 1 => by rw [ey_succ, List.length_append]; have := ey_len n x hn k; have := ez_len x k n; omega
theorem ex_len (n : Nat) (hn : n ≤ 7) : ∀ k, (ex n k).length ≤ 49 * k
  | 0 => by simp [ex]
  | k + 1 => by rw [ex_succ, List.length_append]; have := ex_len n hn k; have := ey_len n k hn n; omega
theorem everyL_len (n : Nat) (hn : n ≤ 7) : (everyL n).length ≤ 343 := by have := ex_len n hn n; unfold everyL; omega
theorem mem_every (n : Nat) (l : List Int) : l ∈ everyL n ↔ ∃ x y z : Nat, x < n ∧ y < n ∧ z < n ∧ x ≠ y ∧ x ≠ z ∧ y ≠ z ∧ l = [(x : Int), (y : Int), (z : Int)] := by
  simp only [everyL, ex, ey, ez, pick3, List.mem_flatMap, List.mem_range]
  constructor
  · rintro ⟨x, hx, y, hy, z, hz, h⟩
    split at h
    · rename_i hd
      exact ⟨x, y, z, hx, hy, hz, hd.1, hd.2.1, hd.2.2, by simpa using h⟩
    · simp at h
  · rintro ⟨x, y, z, hx, hy, hz, h1, h2, h3, rfl⟩
    exact ⟨x, hx, y, hy, z, hz, by rw [if_pos ⟨h1, h2, h3⟩]; simp⟩
theorem every_thr (n : Nat) (l : List Int) : l ∈ everyL n ↔ Thr (n : Int) l := by
  rw [mem_every]
  constructor
  · rintro ⟨x, y, z, hx, hy, hz, h1, h2, h3, rfl⟩
    rw [thr3]
    refine ⟨by omega, by omega, by omega, ?_, ?_, ?_⟩ <;> omega
  · intro h
    obtain ⟨x, y, z, rfl⟩ := of_three h.1
    rw [thr3] at h
    obtain ⟨hx, hy, hz, h1, h2, h3⟩ := h
    refine ⟨x.toNat, y.toNat, z.toNat, by omega, by omega, by omega, by omega, by omega, by omega, ?_⟩
    rw [Int.toNat_of_nonneg hx.1, Int.toNat_of_nonneg hy.1, Int.toNat_of_nonneg hz.1]
theorem every_row3 (n : Nat) : ∀ l ∈ everyL n, l.length = 3 := fun l hl => ((every_thr n l).1 hl).1
theorem pick3_row (x y z : Nat) : ∀ l ∈ pick3 x y z, l.length = 3 := fun l hl => by
  unfold pick3 at hl
  split at hl
  · simp at hl; rw [hl]; rfl
  · simp at hl
theorem pick3_yes {x y z : Nat} (h1 : x ≠ y) (h2 : x ≠ z) (h3 : y ≠ z) : pick3 x y z = [[(x : Int), (y : Int), (z : Int)]] := if_pos ⟨h1, h2, h3⟩
theorem pick3_no {x y z : Nat} (h : ¬ (x ≠ y ∧ x ≠ z ∧ y ≠ z)) : pick3 x y z = [] := if_neg h

theorem RowN.snoc {w w' : World} {B m : Nat} {t : TypeId} {v v' : Value} {M : List (List Int)} {l : List Int} (h : RowN w B t m v M) (hl : l.length = m) (ho : w'.ownsRow B t m v' (M.length + 1) (ints M.flatten ++ ints l)) : RowN w' B t m v' (M ++ [l]) := by
  refine ⟨fun r hr => ?_, ?_⟩
  · rcases List.mem_append.1 hr with h1 | h1
    · exact h.1 r h1
    · rw [List.mem_singleton.1 h1, hl]
  · rw [List.length_append, List.flatten_append, ints, List.map_append]
    simpa [ints] using ho
theorem RowN.empty (w : World) {B m : Nat} {t : TypeId} (hB : B ≤ w.heap.size) : RowN (w.alloc (.cells #[] t)) B t m (.slice (some ⟨w.heap.size, 0, none⟩) 0 0) [] :=
  ⟨by simp, by simp [ints], .inr ⟨w.heap.size, 0, #[], rfl, hB, heap_alloc_new w _, Nat.le_refl _, by decide, by simp, by simp [ints]⟩⟩

end Go.Proofs.YtehadbpbkenccaaGreatDoor

namespace Go.Proofs.YtehadbpbkenccaaGreatDoor
open Go.ChangeShapes Go.WideShapes Go.ChangeAt Go.RowKit

def idxR (p : List Int → Bool) (M : List (List Int)) : Int := if M.findIdx p < M.length then (M.findIdx p : Int) else -1
theorem idxR_at {p : List Int → Bool} {M : List (List Int)} {k : Nat} (hk : k < M.length) (h : ∀ j, j < k → p (rowK M j) = false) (hp : p (rowK M k) = true) : idxR p M = k ∧ M.findIdx p = k := by
  have e : M.findIdx p = k := by
    rw [List.findIdx_eq hk]
    refine ⟨by simpa [rowK, List.getD, hk] using hp, fun j hj => ?_⟩
    have := h j hj
    simpa [rowK, List.getD, show j < M.length by omega] using this
  exact ⟨by rw [idxR, e, if_pos hk], e⟩
theorem idxR_none {p : List Int → Bool} {M : List (List Int)} (h : ∀ j, j < M.length → p (rowK M j) = false) : idxR p M = -1 := by
  rw [idxR, if_neg]
  rw [List.findIdx_lt_length]
  rintro ⟨l, hl, hp⟩
  obtain ⟨j, hj, rfl⟩ := List.getElem_of_mem hl
  have := h j hj
  simp [rowK, List.getD, hj] at this
  rw [this] at hp; cases hp

/-- What stands in the row when the first j are looked at: those kept, then the rest as it was. -/
def keptTo (p : List Int → Bool) (M : List (List Int)) (j : Nat) : List (List Int) := (M.take j).filter fun l => !p l
theorem keptTo_len (p : List Int → Bool) (M : List (List Int)) (j : Nat) : (keptTo p M j).length ≤ j := by
  have := List.length_filter_le (fun l => !p l) (M.take j)
  simp at this; unfold keptTo; omega
theorem keptTo_yes {p : List Int → Bool} {M : List (List Int)} {j : Nat} (hj : j < M.length) (h : p (rowK M j) = false) : keptTo p M (j + 1) = keptTo p M j ++ [rowK M j] := by
  have e : rowK M j = M[j] := by simp [rowK, List.getD, hj]
  rw [e] at h
  unfold keptTo
  rw [List.take_succ_eq_append_getElem hj, List.filter_append, e]
  congr 1
  simp [h]
theorem keptTo_no {p : List Int → Bool} {M : List (List Int)} {j : Nat} (hj : j < M.length) (h : p (rowK M j) = true) : keptTo p M (j + 1) = keptTo p M j := by
  have e : rowK M j = M[j] := by simp [rowK, List.getD, hj]
  rw [e] at h
  unfold keptTo
  rw [List.take_succ_eq_append_getElem hj, List.filter_append]
  simp [h]
theorem keptTo_full (p : List Int → Bool) (M : List (List Int)) : keptTo p M M.length = M.filter fun l => !p l := by simp [keptTo]
/-- The row: as long as ever, the kept ones ahead, the unseen ones where they were. -/
def RowAt (p : List Int → Bool) (M X : List (List Int)) (j : Nat) : Prop := X.length = M.length ∧ X.take (keptTo p M j).length = keptTo p M j ∧ X.drop j = M.drop j
theorem rowAt_get {p : List Int → Bool} {M X : List (List Int)} {j : Nat} (h : RowAt p M X j) : rowK X j = rowK M j := by
  have := congrArg (fun l => l[0]?) h.2.2
  simp only [List.getElem?_drop, Nat.add_zero] at this
  simp [rowK, List.getD, this]
theorem rowAt_no {p : List Int → Bool} {M X : List (List Int)} {j : Nat} (h : RowAt p M X j) (hj : j < M.length) (hp : p (rowK M j) = true) : RowAt p M X (j + 1) := by
  refine ⟨h.1, by rw [keptTo_no hj hp]; exact h.2.1, ?_⟩
  rw [← List.drop_drop, ← List.drop_drop, h.2.2]
theorem rowAt_yes {p : List Int → Bool} {M X : List (List Int)} {j : Nat} (h : RowAt p M X j) (hj : j < M.length) (hp : p (rowK M j) = false) : RowAt p M (X.set (keptTo p M j).length (rowK M j)) (j + 1) := by
  have hl := keptTo_len p M j
  have hX := h.1
  refine ⟨by rw [List.length_set]; exact h.1, ?_, ?_⟩
  · rw [keptTo_yes hj hp, List.length_append, List.length_singleton, List.take_succ_eq_append_getElem (by rw [List.length_set]; omega), List.take_set_of_le (Nat.le_refl _), h.2.1]
    simp
  · rw [List.drop_set_of_lt (by omega), ← List.drop_drop, ← List.drop_drop, h.2.2]
theorem rowAt_start (p : List Int → Bool) (M : List (List Int)) {k : Nat} (hk : k < M.length) (h : ∀ j, j < k → p (rowK M j) = false) (hp : p (rowK M k) = true) : keptTo p M (k + 1) = M.take k ∧ RowAt p M M (k + 1) := by
  have e : ∀ q, q ≤ k → keptTo p M q = M.take q := by
    intro q
    induction q with
    | zero => intro _; simp [keptTo]
    | succ q ih =>
      intro hq
      rw [keptTo_yes (by omega) (h q (by omega)), ih (by omega), List.take_succ_eq_append_getElem (by omega)]
      simp [rowK, List.getD, show q < M.length by omega]
  have e1 : keptTo p M (k + 1) = M.take k := by rw [keptTo_no hk hp, e k (Nat.le_refl _)]
  refine ⟨e1, rfl, ?_, rfl⟩
  rw [e1, List.length_take]
  congr 1; omega
theorem keep_all {p : List Int → Bool} {M : List (List Int)} (h : ∀ j, j < M.length → p (rowK M j) = false) : M.filter (fun l => !p l) = M := by
  rw [List.filter_eq_self]
  intro l hl
  obtain ⟨j, hj, rfl⟩ := List.getElem_of_mem hl
  have := h j hj
  simp [rowK, List.getD, hj] at this
  simp [this]

end Go.Proofs.YtehadbpbkenccaaGreatDoor

namespace Go.Proofs.YtehadbpbkenccaaGreatDoor
open Go.ChangeShapes Go.WideShapes Go.ChangeAt Go.RowKit

theorem elem_rings : Tryz.prog.elem 218 = 31 := by kernel_rfl
theorem cells_three : Tryz.prog.cellsOf 183 = 3 := by kernel_rfl
theorem cells_ring : Tryz.prog.cellsOf 31 = 7 := by kernel_rfl
theorem zero_three (w : World) : (zeroValue 183).run Tryz.prog w = .ok (.agg #[.int .i64 0, .int .i64 0, .int .i64 0]) w := by kernel_rfl
theorem zero_ring (w : World) : (zeroValue 31).run Tryz.prog w = .ok (.agg #[.int .i64 0, .int .i64 0, .int .i64 0, .int .i64 0, .int .i64 0, .int .i64 0, .int .i64 0]) w := by kernel_rfl

theorem headN (S t : Nat) (he : Tryz.prog.elem S = t) (hu : Tryz.prog.underlying S = some (.slice t)) (i : TypeInfo) (hi : Tryz.prog.info? t = some i) (W : World) (g n c k : Nat) (hk : k ≤ c) :
    (Instr.slice S (.slice (some ⟨g, 0, none⟩) n c) none (some (.int .i64 (k : Int))) none).run Tryz.prog W = .ok (.slice (some ⟨g, 0, none⟩) k c) W := by
  have h := run_slice_h (P := Tryz.prog) W S (some ⟨g, 0, none⟩) n c (by rw [he]; exact hu) .i64 (k : Int) (by omega) (by omega)
  rw [h, he, run_sizeOf W hi, Result.andThen_ok]
  simp [sliced, Addr.add]
theorem tailN (S t m : Nat) (he : Tryz.prog.elem S = t) (hu : Tryz.prog.underlying S = some (.slice t)) (i : TypeInfo) (hi : Tryz.prog.info? t = some i) (hc : Tryz.prog.cellsOf t = m) (W : World) (g n c k : Nat) (hk : k ≤ n) :
    (Instr.slice S (.slice (some ⟨g, 0, none⟩) n c) (some (.int .i64 (k : Int))) none none).run Tryz.prog W = .ok (.slice (some (if c = k then ⟨g, 0, none⟩ else ⟨g, k * m, none⟩)) (n - k) (c - k)) W := by
  have h := run_slice_l (P := Tryz.prog) W S (some ⟨g, 0, none⟩) n c (by rw [he]; exact hu) .i64 (k : Int) (by omega) (by omega)
  rw [h, he, run_sizeOf W hi, Result.andThen_ok, hc]
  by_cases e : c = k
  · simp [sliced, e]
  · simp [sliced, e, Addr.add_lit]

theorem oneCell_zeros (z : Array Value) (h : ∀ v ∈ z.toList, v.oneCell' = true) (hz : 0 < z.size) (n : Nat) : ∀ v ∈ (Builtin.zeroCells z n).toList, v.oneCell' = true := by
  intro v hv
  simp only [Builtin.zeroCells, Array.toList_map, Array.toList_range, List.mem_map, List.mem_range] at hv
  obtain ⟨j, _, rfl⟩ := hv
  have hlt := Nat.mod_lt j hz
  rw [getElem!_pos z _ hlt]
  exact h _ (by simp)

set_option maxRecDepth 10000 in
/-- The tail of a row cleared: what is left ahead of it is a row. -/
theorem wpList_clearN {ops : Array Oper} {rest : List Oper} {o : Oper} {a : Act} {w : World} {Q : Exit → Act → World → Prop} (hgd : o.guard = none) (x : Operand) (S t m : Nat) (ho : o.op = .call { callee := .builtin .clear, args := #[x], argTypes := #[S] })
    (hS : Tryz.prog.underlying S = some (.slice t)) (z : Value) (hz : ∀ w, (zeroValue t).run Tryz.prog w = .ok z w) (hzs : z.cells.size = m) (hm : 0 < m) (hz1 : ∀ v ∈ z.cells.toList, v.oneCell' = true)
    (g n c i D : Nat) (X : List (List Int)) (hX : Hid (RowN w D t m (.slice (some ⟨g, 0, none⟩) n c) X)) (hXn : X.length = n) (hin : i ≤ n)
    (ad : Addr) (had : Hid ((if c = i then ⟨g, 0, none⟩ else ⟨g, i * m, none⟩) = ad)) (hx : a.eval x = .slice (some ad) (n - i) (c - i))
    (h : ∀ w', Hid (RowN w' D t m (.slice (some ⟨g, 0, none⟩) i c) (X.take i)) → w.grownBy w' (some g) → wpList Tryz.prog ops Q rest (a.put o.dst (.tuple #[])) w') : wpList Tryz.prog ops Q (o :: rest) a w :=
  wpList_plain hgd fun _ hK => by
    have h0 := hX.out
    have had := had.out
    subst had
    rcases h0.2.2 with ⟨e, _⟩ | ⟨g', c', cur, e, hB, hg, hc, hcm, hs, ht⟩
    · cases e
    · injection e with e1 e2 e3
      injection e1 with e1
      injection e1 with e1
      subst e1; subst e3; subst hXn
      have hrows : ∀ l ∈ X.take i, l.length = m := fun l hl => h0.1 l (List.mem_of_mem_take hl)
      have hxl : (X.take i).length = i := by simp; omega
      have him : i * m ≤ X.length * m := Nat.mul_le_mul_right _ hin
      have hcm' : X.length * m ≤ c * m := Nat.mul_le_mul_right _ hc
      have hfl : (X.take i).flatten.length = i * m := by rw [flat_length m _ hrows, hxl]
      have hfx : X.flatten.take (i * m) = (X.take i).flatten := by
        conv => lhs; rw [← List.take_append_drop i X, List.flatten_append]
        exact List.take_left' hfl
      have rowOf : ∀ (w' : World) (cur' : Array Value), w'.heap[g]? = some (.cells cur' t (0, 0)) → cur'.size = cur.size → cur'.toList.take (i * m) = cur.toList.take (i * m) → RowN w' D t m (.slice (some ⟨g, 0, none⟩) i c) (X.take i) := fun w' cur' hg' hs' ht' => by
        refine ⟨hrows, by rw [hxl, ints_length, hfl], .inr ⟨g, c, cur', by rw [hxl], hB, hg', by rw [hxl]; omega, hcm, by rw [hs', hs], ?_⟩⟩
        rw [hxl, ht']
        have : cur.toList.take (i * m) = (cur.toList.take (X.length * m)).take (i * m) := by rw [List.take_take, Nat.min_eq_left him]
        rw [this, ht, ← hfx]
        simp [ints]
      by_cases hni : X.length - i = 0
      · have hrun : (Builtin.clear_ #[S] o.type #[.slice (some (if c = i then (⟨g, 0, none⟩ : Addr) else ⟨g, i * m, none⟩)) 0 (c - i)]).run Tryz.prog w = .ok (.tuple #[]) w := by
          simp [Builtin.clear_, run_underlying hS]
        rw [hni] at hx
        unfold Oper.wp execOp
        simp only [ho, resolve, invoke, builtin, Sem.run_bind, Sem.run_pure, Result.andThen_ok, List.map_toArray, List.map_cons, List.map_nil, hx, hrun]
        exact hK _ _ (h w (rowOf w cur hg rfl rfl) (World.grownBy.refl _ _))
      · have hci : ¬ c = i := by omega
        rw [if_neg hci] at hx
        obtain ⟨d, hd⟩ : ∃ d, X.length - i = d + 1 := ⟨X.length - i - 1, by omega⟩
        have hzl : (Builtin.zeroCells z.cells (X.length - i)).toList.length = (X.length - i) * m := by rw [Array.length_toList, size_zeroCells, hzs]
        have hsum : i * m + (X.length - i) * m = X.length * m := by rw [← Nat.add_mul]; congr 1; omega
        have hst := run_storeCells_at Tryz.prog g (i * m) t (Builtin.zeroCells z.cells (X.length - i)).toList 0 cur w hg (by rw [hzl]; omega) (oneCell_zeros z.cells hz1 (by omega) _)
        have hrun : (Builtin.clear_ #[S] o.type #[.slice (some (⟨g, i * m, none⟩ : Addr)) (X.length - i) (c - i)]).run Tryz.prog w = .ok (.tuple #[]) (w.setRow g (cur.toList.take (i * m + 0) ++ (Builtin.zeroCells z.cells (X.length - i)).toList ++ cur.toList.drop (i * m + 0 + (Builtin.zeroCells z.cells (X.length - i)).toList.length)).toArray) := by
          rw [hd] at hst ⊢
          simp [Builtin.clear_, run_underlying hS, hz, hst]
        unfold Oper.wp execOp
        simp only [ho, resolve, invoke, builtin, Sem.run_bind, Sem.run_pure, Result.andThen_ok, List.map_toArray, List.map_cons, List.map_nil, hx, hrun]
        refine hK _ _ (h _ (rowOf _ _ (setRow_heap w g cur _ t _ hg) ?_ ?_) ⟨rfl, rfl, rfl, by simp, fun i _ hi => setRow_other w g i _ (fun e => hi (by simp [e]))⟩)
        · simp only [List.size_toArray, List.length_append, List.length_take, List.length_drop, hzl, Array.length_toList]
          omega
        · simp only [Nat.add_zero]
          rw [List.append_assoc, List.take_append_of_le_length (by rw [List.length_take, Array.length_toList]; omega), List.take_take, Nat.min_self]


end Go.Proofs.YtehadbpbkenccaaGreatDoor
