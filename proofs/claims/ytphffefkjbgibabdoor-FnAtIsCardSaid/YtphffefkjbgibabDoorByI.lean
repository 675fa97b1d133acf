/- The program's ring by its number. -/
import Derived.Test.YtphffefkjbgibabDoorPR
import Derived.Test.YtphffefkjbgibabDoorDel
import Derived.Laws.IdiomCopy
namespace Go.Proofs.YtphffefkjbgibabDoor
open Go.ChangeShapes Go.WideShapes Go.ChangeAt Go.RowKit

theorem setCells_row (g : Nat) (t : TypeId) : ∀ (vs : List Value) (o : Nat) (w : World) (cur : Array Value), w.heap[g]? = some (.cells cur t (0, 0)) →
    ∃ cur' : Array Value, (w.setCells g o vs).heap[g]? = some (.cells cur' t (0, 0)) ∧ cur'.size = cur.size ∧ (∀ j, j < vs.length → o + j < cur.size → cur'[o + j]? = vs[j]?) ∧ (∀ j, j < o → cur'[j]? = cur[j]?) ∧
      w.grownBy (w.setCells g o vs) (some g)
  | [], o, w, cur, h => ⟨cur, h, rfl, fun j hj => absurd hj (by simp), fun _ _ => rfl, World.grownBy.refl _ _⟩
  | v :: vs, o, w, cur, h => by
    obtain ⟨c1, h1, h2, h3, h4, h5⟩ := setCells_row g t vs (o + 1) (w.setCell ⟨g, o, none⟩ v) (cur.setIfInBounds o v) (heap_setCell_same w g o cur t v h)
    have hg1 : w.grownBy (w.setCell ⟨g, o, none⟩ v) (some g) := ⟨rfl, rfl, rfl, by simp [World.setCell], fun i _ hne => Below.heap_setCell _ _ _ _ (fun e => hne (by simp [e]))⟩
    refine ⟨c1, h1, by rw [h2]; simp, fun j hj hs => ?_, fun j hj => ?_, hg1.trans h5⟩
    · rcases j with _ | j
      · rw [Nat.add_zero, h4 o (by omega)]
        simp at hs ⊢
        simp [hs]
      · have := h3 j (by simpa using hj) (by simp; omega)
        rw [show o + 1 + j = o + (j + 1) by omega] at this
        simpa using this
    · rw [h4 j (by omega), Array.getElem?_setIfInBounds, if_neg (by omega)]

/-- The array half filled by numbers. -/
theorem pad_out (out : List Int) (i : Nat) (x : Int) (hl : out.length = i) (hi : i < 7) : (padR out).set i x = padR (out ++ [x]) := by
  unfold padR
  rw [List.set_append_right _ _ (by omega), hl, Nat.sub_self]
  obtain ⟨m, hm⟩ : ∃ m, 7 - i = m + 1 := ⟨7 - i - 1, by omega⟩
  rw [hm, List.replicate_succ, List.set_cons_zero, List.append_assoc]
  simp [hl]
  omega

end Go.Proofs.YtphffefkjbgibabDoor
