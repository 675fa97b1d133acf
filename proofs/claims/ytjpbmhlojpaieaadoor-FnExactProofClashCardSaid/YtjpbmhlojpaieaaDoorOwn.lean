/- Rows of the call's own between two block numbers, through the steps of a law. -/
import Derived.Test.YtjpbmhlojpaieaaDoorList
import Derived.Maps.AppendAt
namespace Go.Proofs.YtjpbmhlojpaieaaDoor
open Go.ChangeShapes Go.WideShapes Go.ChangeAt Go.RowKit

/-- A row of the call's own that may begin in the midst of its block: the cells from o on are the list; not frozen. -/
def OwnG (w : World) (B : Nat) (v : Value) (l : List Int) : Prop :=
  (v = .slice none 0 0 ∧ l = []) ∨
  ∃ g o c cur, v = .slice (some ⟨g, o, none⟩) l.length c ∧ B ≤ g ∧ w.heap[g]? = some (.cells cur 3 (0, 0)) ∧ ∀ j, j < l.length → cur[o + j]? = some (.int .i64 (l.getD j 0))

theorem Own.gen {w : World} {B : Nat} {v : Value} {l : List Int} (h : Own w B v l) : OwnG w B v l := by
  rcases h.2 with ⟨e, h0⟩ | ⟨g, cap, cur, hv, hg, hh, _, _, _, ht⟩
  · exact .inl ⟨e, List.eq_nil_of_length_eq_zero h0⟩
  · refine .inr ⟨g, 0, cap, cur, hv, hg, hh, fun j hj => ?_⟩
    have h1 : (cur.toList.take (l.length * 1))[j]? = (ints l)[j]? := by rw [ht]
    rw [List.getElem?_take, if_pos (by omega), ints_get l j hj] at h1
    rw [Nat.zero_add]
    simpa using h1

section
variable {w w' : World} {B C D : Nat} {v : Value} {l : List Int} {row : Option Nat}
theorem OwnG.slice (h : OwnG w B v l) : ∃ A c, v = .slice A l.length c := by
  rcases h with ⟨e, rfl⟩ | ⟨g, o, c, cur, e, _⟩
  · exact ⟨none, 0, e⟩
  · exact ⟨_, c, e⟩
theorem OwnG.lt (h : OwnG w B v l) : ∀ k, v.ownBlock = some k → B ≤ k ∧ k < w.heap.size := by
  intro k hk
  rcases h with ⟨rfl, _⟩ | ⟨g, o, c, cur, rfl, hb, hg, _⟩
  · simp [Value.ownBlock] at hk
  · simp [Value.ownBlock] at hk
    subst hk
    exact ⟨hb, (Array.getElem?_eq_some_iff.1 hg).1⟩
theorem OwnG.rd {A : Option Addr} {n c : Nat} (h : OwnG w B (.slice A n c) l) : n = l.length ∧ Rd w w.heap.size A n l := by
  rcases h with ⟨e, rfl⟩ | ⟨g, o, c', cur, e, hb, hg, hc⟩
  · injection e with e1 e2 e3
    subst e1; subst e2
    exact ⟨rfl, Rd.nil⟩
  · injection e with e1 e2 e3
    subst e1; subst e2
    refine ⟨rfl, rfl, fun _ => ⟨g, o, rfl, (Array.getElem?_eq_some_iff.1 hg).1, fun k hk => ?_⟩⟩
    rw [cell_of_row w g _ cur _ _ hg]
    exact hc k hk
theorem OwnG.same (h : OwnG w B v l) (hk : ∀ k, v.ownBlock = some k → w'.heap[k]? = w.heap[k]?) : OwnG w' B v l := by
  rcases h with e | ⟨g, o, c, cur, rfl, hb, hg, hc⟩
  · exact .inl e
  · exact .inr ⟨g, o, c, cur, rfl, hb, (hk g rfl).trans hg, hc⟩

/-- A row of the call's own whose block lies between B and C. -/
def Own2 (w : World) (B C : Nat) (v : Value) (l : List Int) : Prop := OwnG w B v l ∧ ∀ k, v.ownBlock = some k → k < C

theorem OwnG.two (h : OwnG w B v l) : Own2 w B w.heap.size v l := ⟨h, fun k hk => (h.lt k hk).2⟩
theorem Own.two (h : Own w B v l) : Own2 w B w.heap.size v l := OwnG.two h.gen
theorem Own2.below (h : Own2 w B C v l) (hb : Below D w w') (hC : C ≤ D) : Own2 w' B C v l :=
  ⟨h.1.same fun k hk => hb.block k (by have := h.2 k hk; omega), h.2⟩
theorem Own2.grown (h : Own2 w B C v l) (hg : w.grownBy w' row) (hr : ∀ k, row = some k → k < B ∨ C ≤ k) : Own2 w' B C v l := by
  refine ⟨h.1.same fun k hk => hg.block k (h.1.lt k hk).2 ?_, h.2⟩
  intro e
  have h1 := (h.1.lt k hk).1
  have h2 := h.2 k hk
  have := hr k e.symm
  omega
theorem Own2.rd {A : Option Addr} {n c : Nat} (h : Own2 w B C (.slice A n c) l) : Rd w w.heap.size A n l := h.1.rd.2
end
theorem Rd.grown {w w' : World} {B : Nat} {A : Option Addr} {n : Nat} {l : List Int} {row : Option Nat} (h : Rd w B A n l) (hg : w.grownBy w' row) (hB : B ≤ w.heap.size) (hr : ∀ k, row = some k → B ≤ k) : Rd w' B A n l :=
  h.below ((Below.refl B w).grown hg hB hr)

theorem eq_own (A A' : Option Addr) (n n' c c' B C B' C' : Nat) (l : List Int) (w : World) (h : Own2 w B C (.slice A n c) l) (h' : Own2 w B' C' (.slice A' n' c') l) (hn : l.length ≤ 1048576) :
    Calls Tryd.prog 9 #[.slice A n c, .slice A' n' c'] w fun e w' => e = .returned (.bool true) ∧ Below w.heap.size w w' := by
  have h1 := h.1.rd
  have h2 := h'.1.rd
  refine (eqIntS_any A A' n n' c c' l l w.heap.size w h1.2 h2.2 (by omega) (by omega)).mono ?_
  rintro e w' ⟨rfl, hb⟩
  exact ⟨by simp [same], hb⟩
end Go.Proofs.YtjpbmhlojpaieaaDoor
