/- RingBack: the ring gone round the other way, by the model and by the program. -/
import Derived.Test.YthpomflpnmddoaaGreatDoorMA
namespace Go.Proofs.YthpomflpnmddoaaGreatDoor
open Go.ChangeShapes Go.WideShapes Go.ChangeAt Go.RowKit

/-- The list gone round the other way from its first point. -/
def backL (l : List Int) : List Int := (List.range l.length).map fun i => l.getD ((l.length - i) % l.length) 0
@[simp] theorem backL_length (l : List Int) : (backL l).length = l.length := by simp [backL]
theorem backL_get (l : List Int) (k : Nat) (hk : k < l.length) : (backL l).getD k 0 = l.getD ((l.length - k) % l.length) 0 := by
  simp [backL, List.getD, hk]

/-- The array half gone back. -/
def backK (l : List Int) (k : Nat) : List Int := (backL l).take k ++ (padR l).drop k
theorem backK_length (l : List Int) (k : Nat) (hk : k ≤ l.length) (h7 : l.length ≤ 7) : (backK l k).length = 7 := by
  have := padR_length l h7
  simp [backK]; omega
theorem backK_step (l : List Int) (k : Nat) (hk : k < l.length) (h7 : l.length ≤ 7) : (backK l k).set k (l.getD ((l.length - k) % l.length) 0) = backK l (k + 1) := by
  rw [← backL_get l k hk]
  unfold backK
  have hl : ((backL l).take k).length = k := by simp; omega
  have hp := padR_length l h7
  rw [List.set_append_right _ _ (by omega), hl, Nat.sub_self, List.drop_eq_getElem_cons (by omega : k < (padR l).length), List.set_cons_zero]
  rw [List.take_succ_eq_append_getElem (by simpa using hk), List.append_assoc]
  simp [List.getD, hk]
theorem backK_full (l : List Int) : backK l l.length = padR (backL l) := by
  unfold backK padR
  rw [List.take_of_length_le (by simp), List.drop_append, backL_length]
  simp
theorem backK_one (l : List Int) (h1 : 1 ≤ l.length) (h7 : l.length ≤ 7) : backK l 1 = padR l := by
  have hp := padR_length l h7
  have h0 : (backK l 0) = padR l := by simp [backK]
  have hs := backK_step l 0 (by omega) h7
  rw [h0, Nat.sub_zero, Nat.mod_self] at hs
  rw [← hs]
  apply ext_getD _ _ (by simp)
  intro k hk
  by_cases e : k = 0
  · subst e
    have := padR_get l 0 (by omega)
    simp only [List.getD_eq_getElem?_getD, List.getElem?_set, if_true] at this ⊢
    rw [if_pos (by omega)]
    exact this.symm
  · simp [List.getD_eq_getElem?_getD, Ne.symm e]

/-- The world of back before its loop: the box, the room for the result, a callee's box, the copy. -/
theorem back_world (w : World) (c z : Array Value) (P Z : List Int) (hc : c = (ints P).toArray) (hz : z = (ints Z).toArray) (W : World)
    (hW : W = (((w.alloc (.cells c 35)).alloc (.cells z 35)).alloc (.cells c 35)).alloc (.cells c 35)) :
    Arr W w.heap.size P ∧ Arr W (w.heap.size + 1) Z ∧ Arr W (w.heap.size + 1 + 1 + 1) P ∧ Below w.heap.size w W ∧ W.heap.size = w.heap.size + 4 := by
  subst hc; subst hz; subst hW
  refine ⟨?_, ?_, ?_, ?_, by simp⟩
  · have h : Arr (w.alloc (.cells (ints P).toArray 35)) w.heap.size P := heap_alloc_new w _
    exact ((h.alloc _).alloc _).alloc _
  · have h : Arr ((w.alloc (.cells (ints P).toArray 35)).alloc (.cells (ints Z).toArray 35)) (w.heap.size + 1) Z := heap_alloc2_new w _ _
    exact (h.alloc _).alloc _
  · have := heap_alloc_new (((w.alloc (.cells (ints P).toArray 35)).alloc (.cells (ints Z).toArray 35)).alloc (.cells (ints P).toArray 35)) (.cells (ints P).toArray 35)
    simp only [World.alloc, Array.size_push] at this ⊢
    exact this
  · exact ((((Below.refl _ _).alloc (Nat.le_refl _) _).alloc (by simp) _).alloc (by simp; omega) _).alloc (by simp; omega) _

end Go.Proofs.YthpomflpnmddoaaGreatDoor
