/- The laws' drawer of a ring: a list in new memory. -/
import Derived.Test.YtgojojoanhilnabDoorDraw2
import Derived.Test.YtgojojoanhilnabDoorMA
namespace Go.Proofs.YtgojojoanhilnabDoor
open Go.ChangeShapes Go.WideShapes Go.ChangeAt Go.RowKit

theorem OwnG.set {w : World} {B g o n c : Nat} {l : List Int} (h : OwnG w B (.slice (some ⟨g, o, none⟩) n c) l) {k : Nat} (hk : k < l.length) (u : Int) :
    OwnG (w.setCell ⟨g, o + k, none⟩ (.int .i64 u)) B (.slice (some ⟨g, o, none⟩) n c) (l.set k u) := by
  rcases h with ⟨e, _⟩ | ⟨g', o', c', cur, e, hb, hg, hc⟩
  · cases e
  · injection e with e1 e2 e3
    injection e1 with e1
    injection e1 with e4 e5 _
    subst e4; subst e5; subst e2; subst e3
    refine .inr ⟨g, o, c, cur.setIfInBounds (o + k) (.int .i64 u), by rw [List.length_set], hb, heap_setCell_same w g (o + k) cur _ _ hg, fun j hj => ?_⟩
    rw [List.length_set] at hj
    have hs : o + k < cur.size := (Array.getElem?_eq_some_iff.1 (hc k hk)).1
    rw [Array.getElem?_setIfInBounds]
    by_cases ejk : j = k
    · subst ejk
      rw [if_pos rfl, if_pos hs]
      simp [List.getD_eq_getElem?_getD, hj]
    · rw [if_neg (by omega), hc j hj]
      simp [List.getD_eq_getElem?_getD, Ne.symm ejk]
theorem OwnG.tail {w : World} {B g o n c : Nat} {l : List Int} (h : OwnG w B (.slice (some ⟨g, o, none⟩) n c) l) (h1 : 1 ≤ l.length) :
    OwnG w B (.slice (some ⟨g, o + 1, none⟩) (n - 1) (c - 1)) (l.drop 1) := by
  rcases h with ⟨e, _⟩ | ⟨g', o', c', cur, e, hb, hg, hc⟩
  · cases e
  · injection e with e1 e2 e3
    injection e1 with e1
    injection e1 with e4 e5 _
    subst e4; subst e5; subst e2; subst e3
    refine .inr ⟨g, o + 1, c - 1, cur, by rw [List.length_drop], hb, hg, fun j hj => ?_⟩
    rw [List.length_drop] at hj
    rw [show o + 1 + j = o + (1 + j) by omega, hc (1 + j) (by omega)]
    simp [List.getD_eq_getElem?_getD, Nat.add_comm]

end Go.Proofs.YtgojojoanhilnabDoor
