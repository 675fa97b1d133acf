/- How many pairs of a list part each other: the model's count. -/
import Derived.Test.YtamnacgclhaggabCho
namespace Go.Proofs.Ytamnacgclhaggab
open Go.ChangeShapes Go.WideShapes Go.ChangeAt Go.RowKit

/-- Whether two pairs have four different points and part each other. -/
def chkB (l e o : List Int) : Bool := four l.length (e ++ o) && partB l (e ++ o)
def cin (f : Nat → Nat → Bool) (i : Nat) : Nat → Nat
  | 0 => 0
  | k + 1 => cin f i k + if f i k then 1 else 0
def cout (f : Nat → Nat → Bool) : Nat → Nat
  | 0 => 0
  | i + 1 => cout f i + cin f i i
theorem cin_le (f : Nat → Nat → Bool) (i : Nat) : ∀ k, cin f i k ≤ k
  | 0 => Nat.le_refl _
  | k + 1 => by
    have := cin_le f i k
    unfold cin
    split <;> omega
theorem cout_le (f : Nat → Nat → Bool) : ∀ i, i ≤ 8 → cout f i ≤ i * 8
  | 0, _ => Nat.le_refl _
  | i + 1, h => by
    have h1 := cout_le f i (by omega)
    have h2 := cin_le f i i
    unfold cout
    omega
def chkF (l : List Int) (L : List (List Int)) (i k : Nat) : Bool := chkB l (rowK L i) (rowK L k)
def chN (l : List Int) (L : List (List Int)) : Nat := cout (chkF l L) L.length

theorem lit4_rd (V : World) (x y z u : Int) : Rd (V.alloc (.cells #[.int .i64 x, .int .i64 y, .int .i64 z, .int .i64 u] 3)) (V.heap.size + 1) (some ⟨V.heap.size, 0, none⟩) 4 [x, y, z, u] := ⟨rfl, fun _ => ⟨V.heap.size, 0, rfl, by omega, fun k hk => by
  have h := heap_alloc_new V (.cells #[.int .i64 x, .int .i64 y, .int .i64 z, .int .i64 u] 3)
  rw [Nat.zero_add, cell_of_row _ _ _ _ _ (0, 0) h]
  obtain rfl | rfl | rfl | rfl : k = 0 ∨ k = 1 ∨ k = 2 ∨ k = 3 := by omega
  all_goals rfl⟩⟩

end Go.Proofs.Ytamnacgclhaggab
