/- Rows of numbers that the call itself has made, read as slices whose capacity is no less than their length. -/
import Derived.Test.YtjpbmhlojpaieaaDoorOwn
namespace Go.Proofs.YtjpbmhlojpaieaaDoor
open Go.ChangeShapes Go.WideShapes Go.ChangeAt Go.RowKit

/-- A row's value: the call's own ints, its capacity no less than its length. -/
def RowV (w : World) (B : Nat) (vk : Value) (l : List Int) : Prop := OwnG w B vk l ∧ ∃ A c, vk = .slice A l.length c ∧ l.length ≤ c ∧ c ≤ 9223372036854775807

section
variable {w w' : World} {B : Nat} {vk : Value} {l : List Int}
theorem RowV.same (h : RowV w B vk l) (hk : ∀ k, vk.ownBlock = some k → w'.heap[k]? = w.heap[k]?) : RowV w' B vk l := ⟨h.1.same hk, h.2⟩
/-- A literal slice of ints is a row. -/
theorem RowV.lit (w : World) (hB : B ≤ w.heap.size) (l : List Int) (hl : l.length ≤ 1048576) : RowV (w.alloc (.cells (ints l).toArray 3)) B (.slice (some ⟨w.heap.size, 0, none⟩) l.length l.length) l := by
  refine ⟨?_, _, _, rfl, Nat.le_refl _, by omega⟩
  have := World.ownsRow_lit (base := B) (e := 3) (size := 1) w (ints l).toArray l.length hB (by unfold maxLen; omega) (by simp)
  exact Own.gen (by simpa [Own] using this)
theorem RowV.less {B' : Nat} (h : RowV w B vk l) (hB : B' ≤ B) : RowV w B' vk l := by
  refine ⟨?_, h.2⟩
  rcases h.1 with e | ⟨g, o, c, cur, e, hb, rest⟩
  · exact .inl e
  · exact .inr ⟨g, o, c, cur, e, by omega, rest⟩
theorem RowV.alloc (h : RowV w B vk l) (o : Obj) : RowV (w.alloc o) B vk l := h.same fun k hk => Below.heap_alloc w o k (h.1.lt k hk).2
end

theorem Own.rowV5 {w : World} {B : Nat} {v : Value} {l : List Int} (h : Own w B v l) : RowV w B v l := by
  refine ⟨h.gen, ?_⟩
  rcases h.2 with ⟨e, h0⟩ | ⟨g, cap, cur, e, _, _, h3, h4, _⟩
  · exact ⟨none, 0, by rw [e, h0], by omega, by omega⟩
  · exact ⟨_, cap, e, h3, by unfold maxLen at h4; omega⟩
theorem RowV.grown5 {w w' : World} {B R : Nat} {v : Value} {l : List Int} (h : RowV w B v l) (hg : w.grownBy w' (some R)) (hR : R < B) : RowV w' B v l :=
  h.same fun k hk => hg.block k ((h.1.lt k hk).2) fun e => by
    have e1 : k = R := Option.some.inj e
    have := (h.1.lt k hk).1
    omega
theorem RowV.below5 {w w' : World} {B : Nat} {v : Value} {l : List Int} (h : RowV w B v l) (hb : Below w.heap.size w w') : RowV w' B v l :=
  h.same fun k hk => hb.block k ((h.1.lt k hk).2)
end Go.Proofs.YtjpbmhlojpaieaaDoor
