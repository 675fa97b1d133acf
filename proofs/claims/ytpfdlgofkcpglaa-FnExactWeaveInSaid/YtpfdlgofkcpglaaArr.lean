/- The program's array of a ring: made, filled, read. -/
import Derived.Test.YtpfdlgofkcpglaaKit
import Derived.Test.YtpfdlgofkcpglaaFact
import Derived.Laws.Rows
import Derived.Laws.Tables
import Derived.Laws.CopyOwn
namespace Go.Proofs.Ytpfdlgofkcpglaa
open Go.ChangeShapes Go.WideShapes Go.ChangeAt Go.RowKit

section
variable {w w' : World} {g : Nat} {P : List Int}
theorem Arr.lt (h : Arr w g P) : g < w.heap.size := by
  rcases Nat.lt_or_ge g w.heap.size with hlt | hge
  · exact hlt
  · unfold Arr at h; rw [Array.getElem?_eq_none hge] at h; cases h
theorem Arr.cell (h : Arr w g P) {i : Nat} (hi : i < P.length) : w.cell? ⟨g, i, none⟩ = some (.int .i64 (P.getD i 0)) := by
  rw [cell_of_row w g i _ _ (0, 0) h, List.getElem?_toArray, ints_get _ _ hi]
theorem Arr.frozen (h : Arr w g P) (i : Nat) : w.frozen? ⟨g, i, none⟩ = false := by
  unfold Arr at h; simp [World.frozen?, h]
theorem Arr.drew (h : Arr w g P) : Arr w.drew g P := h
theorem Arr.drewN (h : Arr w g P) (n : Nat) : Arr (w.drewN n) g P := h
theorem Arr.alloc (h : Arr w g P) (o : Obj) : Arr (w.alloc o) g P := (Below.heap_alloc w o g h.lt).trans h
theorem Arr.set_ (h : Arr w g P) (i : Nat) (u : Int) : Arr (w.setCell ⟨g, i, none⟩ (.int .i64 u)) g (P.set i u) := by
  unfold Arr at h ⊢
  rw [← ints_set, ← List.setIfInBounds_toArray]
  simp [World.setCell, Array.getElem?_modify, h]
theorem Arr.far (h : Arr w g P) {p : Addr} (hp : g ≠ p.block) (u : Value) : Arr (w.setCell p u) g P := (Below.heap_setCell w p u g hp).trans h
theorem Arr.below {B : Nat} (h : Arr w g P) (hb : Below B w w') (hg : g < B) : Arr w' g P := (hb.block g hg).trans h
end

/-- A list of seven, written out. -/
theorem seven {P : List Int} (h : P.length = 7) : ∃ a0 a1 a2 a3 a4 a5 a6, P = [a0, a1, a2, a3, a4, a5, a6] := by
  match P, h with
  | [a0, a1, a2, a3, a4, a5, a6], _ => exact ⟨a0, a1, a2, a3, a4, a5, a6, rfl⟩

/-- The array as a value. -/
abbrev ag (a0 a1 a2 a3 a4 a5 a6 : Int) : Value := .agg #[.int .i64 a0, .int .i64 a1, .int .i64 a2, .int .i64 a3, .int .i64 a4, .int .i64 a5, .int .i64 a6]

theorem ints_oneCellB (P : List Int) : ((ints P).toArray).all (·.oneCell') = true := by
  rw [Array.all_eq_true_iff_forall_mem]
  intro u hu
  exact ints_oneCell P u (by simpa using hu)

def fillN (k : Nat) : List Int := List.replicate k (-1) ++ List.replicate (7 - k) 0
theorem fillN_length (k : Nat) (h : k ≤ 7) : (fillN k).length = 7 := by simp [fillN]; omega
theorem fillN_step (k : Nat) (h : k < 7) : (fillN k).set k (-1) = fillN (k + 1) := by
  obtain rfl | rfl | rfl | rfl | rfl | rfl | rfl : k = 0 ∨ k = 1 ∨ k = 2 ∨ k = 3 ∨ k = 4 ∨ k = 5 ∨ k = 6 := by omega
  all_goals rfl

/-- The list behind an array: n points, -1 behind. -/
def padR (l : List Int) : List Int := l ++ List.replicate (7 - l.length) (-1)
theorem padR_length (l : List Int) (h : l.length ≤ 7) : (padR l).length = 7 := by simp [padR]; omega
theorem padR_get (l : List Int) (k : Nat) (h : k < l.length) : (padR l).getD k 0 = l.getD k 0 := by
  simp [padR, List.getD, List.getElem?_append_left h]
theorem padR_end (l : List Int) (k : Nat) (h : l.length ≤ k) (h7 : k < 7) : (padR l).getD k 0 = -1 := by
  simp [padR, List.getD, List.getElem?_append_right h, List.getElem?_replicate]
  rw [if_pos (by omega)]; rfl

/-- The array of the list l as a value. -/
abbrev agp (l : List Int) : Value := .agg (ints (padR l)).toArray

end Go.Proofs.Ytpfdlgofkcpglaa
