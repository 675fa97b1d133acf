/- WeaveCount and WeaveAll of the model and of the program. -/
import Derived.Test.YtgojojoanhilnaaDoorWvY2
import Derived.Test.YtgojojoanhilnaaDoorWvY0
import Derived.Test.YtgojojoanhilnaaDoorGrX
namespace Go.Proofs.YtgojojoanhilnaaDoor
open Go.ChangeShapes Go.WideShapes Go.ChangeAt Go.RowKit

def wctR (n : Int) (p q : List Int) : Int := if Wov n p q then ((wovenL n.toNat [p, q]).length : Nat) else 0
def waR (n : Int) (p q : List Int) : List (List Int) := if Wov n p q then wovenL n.toNat [p, q] else []
theorem sumTo_bd6 (L : List (List Int)) (m : Nat) (h : ∀ l ∈ L, l.length ≤ m) : ∀ k, k ≤ L.length → sumTo L k ≤ m * k
  | 0, _ => by simp [sumTo]
  | k + 1, hk => by
    have ih := sumTo_bd6 L m h k (by omega)
    have := h _ (rowK_mem (M := L) (k := k) (by omega))
    rw [sumTo, Nat.mul_succ]
    omega
theorem wov_nat {n : Int} {p q : List Int} (h : Wov n p q) : ∃ k : Nat, n = k ∧ 3 ≤ k ∧ k ≤ 6 := lst_nat (wov_lst h)
theorem waR_tot (n : Int) (p q : List Int) : tot (waR n p q) ≤ 1048576 := by
  unfold waR
  split
  · rename_i h
    obtain ⟨k, rfl, h3, h6⟩ := wov_nat h
    rw [Int.toNat_natCast]
    have hl := wovenL_len k [p, q] h3 h6
    have hs := sumTo_bd6 (wovenL k [p, q]) 6 (fun r hr => by rw [(wovenL_is k _ h3 h6 r hr).1]; exact h6) _ (Nat.le_refl _)
    unfold tot; omega
  · simp [tot, sumTo]

theorem GrowX.empty6 {B : Nat} (w : World) (hB : B ≤ w.heap.size) : GrowX (w.alloc (.cells #[] 23)) B (.slice (some ⟨w.heap.size, 0, none⟩) 0 0) [] [] := by
  refine ⟨⟨by simp, .inr ⟨w.heap.size, 0, #[], rfl, hB, heap_alloc_new w _, Nat.le_refl _, by decide, by simp, by simp⟩⟩, fun k hk => by simp at hk, ?_⟩
  intros
  simp_all
/-- A row of rings lies in no block of slices. -/
theorem rings_apart {w : World} {B D n : Nat} {v u : Value} {M : List (List Int)} {xs : List Value} (h : RowN w B 56 7 v M) (ho : w.ownsRow D 23 1 u n xs) : ∀ k, v.ownBlock = some k → u.ownBlock ≠ some k := by
  intro k hk e
  rcases h.2.2 with ⟨rfl, _⟩ | ⟨g, cap, cur, rfl, _, hg, _⟩
  · simp [Value.ownBlock] at hk
  · simp [Value.ownBlock] at hk
    subst hk
    rcases ho.2 with ⟨rfl, _⟩ | ⟨g', cap', cur', rfl, _, hg', _⟩
    · simp [Value.ownBlock] at e
    · simp [Value.ownBlock] at e
      subst e
      rw [hg] at hg'
      injection hg' with e1
      injection e1 with _ e2
      exact absurd e2 (by decide)

end Go.Proofs.YtgojojoanhilnaaDoor
