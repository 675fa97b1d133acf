/- ThreeTelling of the model and of the program. -/
import Derived.Test.YtjpbmhlojpaieaaDoorTel
import Derived.Test.YtjpbmhlojpaieaaDoorRows2
namespace Go.Proofs.YtjpbmhlojpaieaaDoor
open Go.ChangeShapes Go.WideShapes Go.ChangeAt Go.RowKit


theorem tlS_any (A : Option Addr) (n c H : Nat) (q : Int) (L : List (List Int)) (w : World) (h : RdS w H A n L) (_ : H ≤ w.heap.size) (hn : tot L ≤ 1048576) :
    Calls Tryd.prog 33 #[.int .i64 q, .slice A n c] w fun e w' => e = .returned (.bool (tel q L)) ∧ Below w.heap.size w w' := by
  have hl := h.len
  refine (telS_any A n c H L q w h (by unfold tot at hn; omega)).mono ?_
  rintro e w' ⟨rfl, p, rfl⟩
  exact ⟨rfl, below_drewN (Below.refl _ _) _⟩

end Go.Proofs.YtjpbmhlojpaieaaDoor
