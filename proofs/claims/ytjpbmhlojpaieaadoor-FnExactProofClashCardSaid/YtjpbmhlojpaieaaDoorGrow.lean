/- A slice of slices that the model's text builds by append; rows may be held more than once. -/
import Derived.Test.YtjpbmhlojpaieaaDoorTel
import Derived.Test.YtjpbmhlojpaieaaDoorRowV
import Derived.Test.YtjpbmhlojpaieaaDoorTri
import Derived.Test.YtjpbmhlojpaieaaDoorRows2
namespace Go.Proofs.YtjpbmhlojpaieaaDoor
open Go.ChangeShapes Go.WideShapes Go.ChangeAt Go.RowKit

def GrowS (w : World) (B : Nat) (v : Value) (L : List (List Int)) : Prop :=
  ∃ xs : List Value, w.ownsRow B 22 1 v L.length xs ∧ ∀ k, k < L.length → ∃ vk, xs[k]? = some vk ∧ RowV w B vk (rowK L k)

section
variable {w w' : World} {B D : Nat} {v v' vk : Value} {L : List (List Int)} {l : List Int} {xs : List Value}
theorem OwnG.kind (h : OwnG w B v l) {g : Nat} (hg : v.ownBlock = some g) : ∃ cur, w.heap[g]? = some (.cells cur 3 (0, 0)) := by
  rcases h with ⟨rfl, _⟩ | ⟨g', o, c, cur, rfl, hb, hgg, _⟩
  · simp [Value.ownBlock] at hg
  · simp [Value.ownBlock] at hg
    subst hg
    exact ⟨cur, hgg⟩
theorem OwnG.apart {n : Nat} (h : OwnG w B vk l) (ho : w.ownsRow D 22 1 v n xs) : ∀ k, vk.ownBlock = some k → some k ≠ v.ownBlock := by
  intro k hk e
  obtain ⟨cur, hc⟩ := h.kind hk
  rcases ho.2 with ⟨rfl, _⟩ | ⟨g, cap, cur', rfl, _, hg, _⟩
  · cases e
  · simp [Value.ownBlock] at e
    subst e
    rw [hc] at hg
    injection hg with hg
    injection hg with _ ht
    exact absurd ht (by decide)
theorem GrowS.empty (w : World) (hB : B ≤ w.heap.size) : GrowS (w.alloc (.cells #[] 22)) B (.slice (some ⟨w.heap.size, 0, none⟩) 0 0) [] :=
  ⟨[], ⟨by simp, .inr ⟨w.heap.size, 0, #[], rfl, hB, heap_alloc_new w _, Nat.le_refl _, by decide, by simp, by simp⟩⟩, fun k hk => absurd hk (by simp)⟩
theorem GrowS.slice (h : GrowS w B v L) : ∃ A c, v = .slice A L.length c ∧ L.length ≤ c ∧ c ≤ 9223372036854775807 := by
  obtain ⟨xs, h1, _⟩ := h
  rcases h1.2 with ⟨e, h0⟩ | ⟨g, cap, cur, e, _, _, h2, h3, _⟩
  · exact ⟨none, 0, by rw [e, h0], by omega, by omega⟩
  · exact ⟨_, cap, e, h2, by unfold maxLen at h3; omega⟩
theorem GrowS.keep (h : GrowS w B v L) (hk : ∀ k, B ≤ k → k < w.heap.size → w'.heap[k]? = w.heap[k]?) : GrowS w' B v L := by
  obtain ⟨xs, h1, h2⟩ := h
  refine ⟨xs, ⟨h1.1, ?_⟩, fun k hkl => ?_⟩
  · rcases h1.2 with e | ⟨g, cap, cur, e, hb, hg, rest⟩
    · exact .inl e
    · exact .inr ⟨g, cap, cur, e, hb, (hk g hb (Array.getElem?_eq_some_iff.1 hg).1).trans hg, rest⟩
  · obtain ⟨vk, h3, h4⟩ := h2 k hkl
    exact ⟨vk, h3, h4.same fun i hi => hk i (h4.1.lt i hi).1 (h4.1.lt i hi).2⟩
theorem GrowS.below (h : GrowS w B v L) (hb : Below D w w') (hD : w.heap.size ≤ D) : GrowS w' B v L := h.keep fun k _ hk => hb.block k (by omega)
theorem GrowS.alloc (h : GrowS w B v L) (o : Obj) : GrowS (w.alloc o) B v L := h.keep fun k _ hk => Below.heap_alloc w o k hk
theorem GrowS.drew (h : GrowS w B v L) : GrowS w.drew B v L := h
theorem GrowS.drewN (h : GrowS w B v L) (n : Nat) : GrowS (w.drewN n) B v L := h
/-- A row more. -/
theorem GrowS.snoc (h1 : w.ownsRow B 22 1 v L.length xs) (h2 : ∀ k, k < L.length → ∃ vk, xs[k]? = some vk ∧ RowV w B vk (rowK L k)) (hr : RowV w B vk l) {w1 : World} (hg : w1.grownBy w' v.ownBlock) (hs : w.heap.size ≤ w1.heap.size) (h01 : ∀ k, k < w.heap.size → w1.heap[k]? = w.heap[k]?)
    (ho : w'.ownsRow B 22 1 v' (L.length + 1) (xs ++ [vk])) : GrowS w' B v' (L ++ [l]) := by
  have keep : ∀ {u : Value} {m : List Int}, RowV w B u m → RowV w' B u m := fun {u m} hu => hu.same fun k hk => by
    have hlt := (hu.1.lt k hk).2
    rw [hg.block k (by omega) (hu.1.apart h1 k hk), h01 k hlt]
  refine ⟨xs ++ [vk], by rw [List.length_append]; exact ho, fun k hk => ?_⟩
  have hxl : xs.length = L.length := by have := h1.1; omega
  rcases Nat.lt_or_ge k L.length with hlt | hge
  · obtain ⟨u, h3, h4⟩ := h2 k hlt
    refine ⟨u, by rw [List.getElem?_append_left (by omega)]; exact h3, ?_⟩
    have e : rowK (L ++ [l]) k = rowK L k := by simp [rowK, List.getD, List.getElem?_append_left hlt]
    rw [e]; exact keep h4
  · obtain rfl : k = L.length := by simp at hk; omega
    refine ⟨vk, by rw [List.getElem?_append_right (by omega)]; simp [hxl], ?_⟩
    have e : rowK (L ++ [l]) L.length = l := by simp [rowK, List.getD]
    rw [e]; exact keep hr
theorem GrowS.rd {A : Option Addr} {n c : Nat} (h : GrowS w B (.slice A n c) L) : n = L.length ∧ RdS w w.heap.size A n L := by
  obtain ⟨xs, h1, h2⟩ := h
  rcases h1.2 with ⟨e, h0⟩ | ⟨g, cap, cur, e, hB, hg, hc, hm, hs, ht⟩
  · injection e with e1 e2 e3
    subst e1; subst e2
    rw [List.eq_nil_of_length_eq_zero h0]
    exact ⟨rfl, RdS.nil⟩
  · injection e with e1 e2 e3
    subst e1; subst e2; subst e3
    refine ⟨rfl, rfl, fun _ => ⟨g, 0, rfl, (Array.getElem?_eq_some_iff.1 hg).1, fun k hk => ?_⟩⟩
    obtain ⟨vk, h3, h4, A, d, rfl, h5, h6⟩ := h2 k hk
    refine ⟨A, d, ?_, h4.rd.2, h5, h6⟩
    rw [Nat.zero_add, cell_of_row w g _ cur _ _ hg]
    rw [← ht, List.getElem?_take, if_pos (by omega)] at h3
    simpa using h3
end

/-- One row more appended, as a step of a region that draws its order. -/
theorem step_append1 {ops : Array Oper} {o : Oper} {a : Act} {K : Act → World → Prop} {Q : Exit → Act → World → Prop} {E : Prop} (w : World) (hgd : o.guard = none) (s x : Operand)
    (ho : o.op = .call { callee := .builtin .append, args := #[s, x], argTypes := #[28, 28] })
    (B : Nat) (v : Value) (n : Nat) (xs : List Value) (hs : a.eval s = v) (g1 : Nat) (u : Value) (hx : a.eval x = .slice (some ⟨g1, 0, none⟩) 1 1) (hown : w.ownsRow B 22 1 v n xs)
    (hu : w.cell? ⟨g1, 0, none⟩ = some u) (h1 : u.oneCell' = true) (h63 : n ≤ 1048576) (hbase : B ≤ w.heap.size)
    (h : ∀ v' w', Hid (w'.ownsRow B 22 1 v' (n + 1) (xs ++ [u])) → Hid (w.grownBy w' v.ownBlock) → K (a.put o.dst v') w') :
    if Region.wanted o (yielded ops a.tmps) = true then Oper.wp Tryd.prog o a w K Q else E := by
  have hw : Region.wanted o (yielded ops a.tmps) = true := by simp [Region.wanted, hgd]
  rw [if_pos hw]
  obtain ⟨i0, hi, hz0, hz1, hz2⟩ := info_parts row_info
  obtain ⟨v', w', hr, h2, h3, _⟩ := run_append_own (P := Tryd.prog) w B 28 o.type 22 i0 (.slice none 0 0) 1 24 Tryd.underlying28 hi hz0 hz1 hz2 rfl (by decide) v n xs hown ⟨g1, 0, none⟩ 1 1 [u] (by simp)
    (fun j y hj => by
      rcases j with _ | j
      · simp at hj; subst hj; rw [Addr.add_lit]; exact hu
      · simp at hj) (by simpa using h1) (by unfold maxLen; omega) (by omega) hbase
  unfold Oper.wp execOp
  simp only [ho, resolve, invoke, builtin, Sem.run_bind, Sem.run_pure, Result.andThen_ok, List.map_toArray, List.map_cons, List.map_nil, hs, hx, hr]
  exact h v' w' h2 h3

theorem one_cell2 (w : World) (a : Obj) (y : Value) (t : TypeId) : ∀ j u, [y][j]? = some u → ((w.alloc a).alloc (.cells #[y] t)).cell? ((⟨w.heap.size + 1, 0, none⟩ : Addr).add j) = some u := by
  have h := one_cell (w.alloc a) y t
  rwa [show (w.alloc a).heap.size = w.heap.size + 1 by simp] at h
theorem grown_undrew {w w' : World} {r : Option Nat} (h : w.drew.grownBy w' r) : w.grownBy w' r := ⟨h.os, h.tape, h.output, h.size, h.block⟩
/-- A literal row laid, a cell for its value, the value appended. -/
theorem grow_lit {w w5 : World} {B : Nat} {v v' : Value} {L : List (List Int)} {xs : List Value} {k : Nat} (hk : L.length = k) (h1 : w.ownsRow B 22 1 v k xs) (h2 : ∀ k, k < L.length → ∃ vk, xs[k]? = some vk ∧ RowV w B vk (rowK L k)) (hB : B ≤ w.heap.size)
    (l : List Int) (hl : l.length ≤ 1048576) (o : Obj) (ho : w5.ownsRow B 22 1 v' (k + 1) (xs ++ [.slice (some ⟨w.heap.size, 0, none⟩) l.length l.length]))
    (hg : ((w.alloc (.cells (ints l).toArray 3)).alloc o).grownBy w5 v.ownBlock) : GrowS w5 B v' (L ++ [l]) := by
  subst hk
  exact GrowS.snoc (w := w.alloc (.cells (ints l).toArray 3)) (h1.alloc _) (fun j hj => by
    obtain ⟨vk, h3, h4⟩ := h2 j hj
    exact ⟨vk, h3, h4.alloc _⟩) (RowV.lit w hB l hl) hg (by simp) (fun j hj => Below.heap_alloc _ _ _ hj) ho
/-- A row that is there already, a cell for its value, the value appended. -/
theorem grow_row {w w5 : World} {B : Nat} {v v' vk : Value} {L : List (List Int)} {l : List Int} {xs : List Value} {k : Nat} (hk : L.length = k) (h1 : w.ownsRow B 22 1 v k xs) (h2 : ∀ k, k < L.length → ∃ vk, xs[k]? = some vk ∧ RowV w B vk (rowK L k))
    (hr : RowV w B vk l) (o : Obj) (ho : w5.ownsRow B 22 1 v' (k + 1) (xs ++ [vk])) (hg : (w.alloc o).grownBy w5 v.ownBlock) : GrowS w5 B v' (L ++ [l]) := by
  subst hk
  exact GrowS.snoc h1 h2 hr hg (by simp) (fun j hj => Below.heap_alloc _ _ _ hj) ho
end Go.Proofs.YtjpbmhlojpaieaaDoor
