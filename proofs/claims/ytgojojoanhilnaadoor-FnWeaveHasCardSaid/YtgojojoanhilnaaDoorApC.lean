/- A row copied behind an empty literal. -/
import Derived.Test.YtgojojoanhilnaaDoorMA
import Derived.OwnWalk
namespace Go.Proofs.YtgojojoanhilnaaDoor
open Go.ChangeShapes Go.WideShapes Go.ChangeAt Go.RowKit

/-- An append to a slice of numbers, by another name. -/
def apC (ts : Array TypeId) (ty : TypeId) (args : Array Value) : Sem Value := Builtin.append_ ts ty args
theorem apC_fold (ts : Array TypeId) (ty : TypeId) (args : Array Value) : Builtin.append_ ts ty args = apC ts ty args := rfl
/-- A row copied behind an empty literal. -/
theorem apC_run {V : World} {g o z cv : Nat} {l : List Int} (hl : l.length = z) (h7 : z ≤ 7) (hc : ∀ j u, (ints l)[j]? = some u → (V.alloc (.cells #[] 3)).cell? ((⟨g, o, none⟩ : Addr).add j) = some u) :
    ∃ v' w', (∀ ty, (apC #[23, 23] ty #[.slice (some ⟨V.heap.size, 0, none⟩) 0 0, .slice (some ⟨g, o, none⟩) z cv]).run Tryd.prog (V.alloc (.cells #[] 3)) = .ok v' w') ∧ RowV w' V.heap.size v' l ∧ (V.alloc (.cells #[] 3)).grownBy w' (some V.heap.size) := by
  obtain ⟨i0, hi, hz0, hz1, hz2⟩ := info_parts int_info
  obtain ⟨v', w', hrun, hown, hgr, _, hat⟩ := run_append_own_at (P := Tryd.prog) (V.alloc (.cells #[] 3)) V.heap.size 23 23 3 i0 (.int .i64 0) 1 8 Tryd.underlying23 hi hz0 hz1 hz2 rfl (by decide) (.slice (some ⟨V.heap.size, 0, none⟩) 0 0) 0 [] (own_empty V _ (Nat.le_refl _)) ⟨g, o, none⟩ z cv (ints l) (by simp [hl]) hc (ints_oneCell l) (by unfold maxLen; omega) (by omega) (by simp)
  refine ⟨v', w', fun _ => hrun, ?_, hgr⟩
  have h : Own w' V.heap.size v' l := by
    unfold Own
    rw [hl]
    simpa using hown
  exact h.rowV5

end Go.Proofs.YtgojojoanhilnaaDoor
