/- All threes of n points in order: the model's list, the program's row. -/
import Derived.Test.YtdmlhkmahmgdlabDoorGrow
namespace Go.Proofs.YtdmlhkmahmgdlabDoor
open Go.ChangeShapes Go.WideShapes Go.ChangeAt Go.RowKit

def pick3 (x y z : Nat) : List (List Int) := if x ≠ y ∧ x ≠ z ∧ y ≠ z then [[(x : Int), (y : Int), (z : Int)]] else []
def ez (x y k : Nat) : List (List Int) := (List.range k).flatMap fun z => pick3 x y z
def ey (n x k : Nat) : List (List Int) := (List.range k).flatMap fun y => ez x y n
def ex (n k : Nat) : List (List Int) := (List.range k).flatMap fun x => ey n x n
def everyL (n : Nat) : List (List Int) := ex n n
theorem ez_succ (x y k : Nat) : ez x y (k + 1) = ez x y k ++ pick3 x y k := by simp [ez, List.range_succ]
theorem ey_succ (n x k : Nat) : ey n x (k + 1) = ey n x k ++ ez x k n := by simp [ey, List.range_succ]
theorem ex_succ (n k : Nat) : ex n (k + 1) = ex n k ++ ey n k n := by simp [ex, List.range_succ]
theorem pick3_len (x y z : Nat) : (pick3 x y z).length ≤ 1 := by unfold pick3; split <;> simp
theorem ez_len (x y : Nat) : ∀ k, (ez x y k).length ≤ k
  | 0 => by simp [ez]
  | k + 1 => by rw [ez_succ, List.length_append]; have := ez_len x y k; have := pick3_len x y k; omega
theorem ey_len (n x : Nat) (hn : n ≤ 7) : ∀ k, (ey n x k).length ≤ 7 * k
  | 0 => by simp [ey]
  | k + 1 => by rw [ey_succ, List.length_append]; have := ey_len n x hn k; have := ez_len x k n; omega
theorem ex_len (n : Nat) (hn : n ≤ 7) : ∀ k, (ex n k).length ≤ 49 * k
  | 0 => by simp [ex]
  | k + 1 => by rw [ex_succ, List.length_append]; have := ex_len n hn k; have := ey_len n k hn n; omega
theorem everyL_len (n : Nat) (hn : n ≤ 7) : (everyL n).length ≤ 343 := by have := ex_len n hn n; unfold everyL; omega
theorem mem_every (n : Nat) (l : List Int) : l ∈ everyL n ↔ ∃ x y z : Nat, x < n ∧ y < n ∧ z < n ∧ x ≠ y ∧ x ≠ z ∧ y ≠ z ∧ l = [(x : Int), (y : Int), (z : Int)] := by
  simp only [everyL, ex, ey, ez, pick3, List.mem_flatMap, List.mem_range]
  constructor
  · rintro ⟨x, hx, y, hy, z, hz, h⟩
    split at h
    · rename_i hd
      exact ⟨x, y, z, hx, hy, hz, hd.1, hd.2.1, hd.2.2, by simpa using h⟩
    · simp at h
  · rintro ⟨x, y, z, hx, hy, hz, h1, h2, h3, rfl⟩
    exact ⟨x, hx, y, hy, z, hz, by rw [if_pos ⟨h1, h2, h3⟩]; simp⟩
theorem every_thr (n : Nat) (l : List Int) : l ∈ everyL n ↔ Thr (n : Int) l := by
  rw [mem_every]
  constructor
  · rintro ⟨x, y, z, hx, hy, hz, h1, h2, h3, rfl⟩
    rw [thr3]
    refine ⟨by omega, by omega, by omega, ?_, ?_, ?_⟩ <;> omega
  · intro h
    obtain ⟨x, y, z, rfl⟩ := of_three h.1
    rw [thr3] at h
    obtain ⟨hx, hy, hz, h1, h2, h3⟩ := h
    refine ⟨x.toNat, y.toNat, z.toNat, by omega, by omega, by omega, by omega, by omega, by omega, ?_⟩
    rw [Int.toNat_of_nonneg hx.1, Int.toNat_of_nonneg hy.1, Int.toNat_of_nonneg hz.1]
theorem every_row3 (n : Nat) : ∀ l ∈ everyL n, l.length = 3 := fun l hl => ((every_thr n l).1 hl).1
theorem pick3_row (x y z : Nat) : ∀ l ∈ pick3 x y z, l.length = 3 := fun l hl => by
  unfold pick3 at hl
  split at hl
  · simp at hl; rw [hl]; rfl
  · simp at hl
theorem pick3_yes {x y z : Nat} (h1 : x ≠ y) (h2 : x ≠ z) (h3 : y ≠ z) : pick3 x y z = [[(x : Int), (y : Int), (z : Int)]] := if_pos ⟨h1, h2, h3⟩
theorem pick3_no {x y z : Nat} (h : ¬ (x ≠ y ∧ x ≠ z ∧ y ≠ z)) : pick3 x y z = [] := if_neg h

theorem RowN.snoc {w w' : World} {B m : Nat} {t : TypeId} {v v' : Value} {M : List (List Int)} {l : List Int} (h : RowN w B t m v M) (hl : l.length = m) (ho : w'.ownsRow B t m v' (M.length + 1) (ints M.flatten ++ ints l)) : RowN w' B t m v' (M ++ [l]) := by
  refine ⟨fun r hr => ?_, ?_⟩
  · rcases List.mem_append.1 hr with h1 | h1
    · exact h.1 r h1
    · rw [List.mem_singleton.1 h1, hl]
  · rw [List.length_append, List.flatten_append, ints, List.map_append]
    simpa [ints] using ho
theorem RowN.empty (w : World) {B m : Nat} {t : TypeId} (hB : B ≤ w.heap.size) : RowN (w.alloc (.cells #[] t)) B t m (.slice (some ⟨w.heap.size, 0, none⟩) 0 0) [] :=
  ⟨by simp, by simp [ints], .inr ⟨w.heap.size, 0, #[], rfl, hB, heap_alloc_new w _, Nat.le_refl _, by decide, by simp, by simp [ints]⟩⟩

end Go.Proofs.YtdmlhkmahmgdlabDoor
