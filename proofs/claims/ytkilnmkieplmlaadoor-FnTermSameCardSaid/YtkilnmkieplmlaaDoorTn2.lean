/- TermFlat: the program's and the model's. -/
import Derived.Test.YtkilnmkieplmlaaDoorTn1
namespace Go.Proofs.YtkilnmkieplmlaaDoor
open Go.ChangeShapes Go.WideShapes Go.ChangeAt Go.RowKit

theorem brk_app (l : List UInt8) : (⟨#[40]⟩ : ByteArray) ++ bs l ++ ⟨#[41]⟩ = bs (40 :: (l ++ [41])) := by
  have e1 : (⟨#[40]⟩ : ByteArray) = bs [40] := rfl
  have e2 : (⟨#[41]⟩ : ByteArray) = bs [41] := rfl
  rw [e1, e2, bs_app, bs_app]
  rfl
theorem one_row (W : World) (l : List UInt8) : RowS (W.alloc (.cells #[.string (bs l)] 9)) W.heap.size 1 [l] :=
  ⟨_, heap_alloc_new W _, rfl, fun j hj => by obtain rfl : j = 0 := by simp at hj; omega
                                              rfl⟩
end Go.Proofs.YtkilnmkieplmlaaDoor
