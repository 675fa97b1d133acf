/- RingSteps of the model and of the program. -/
import Derived.Test.YthfbllgfcidhkaaNext
import Derived.Test.YthfbllgfcidhkaaHas
namespace Go.Proofs.Ythfbllgfcidhkaa
open Go.ChangeShapes Go.WideShapes Go.ChangeAt Go.RowKit

/-- Two points of a ring. -/
def hasB2 (l : List Int) (x y : Int) : Bool := hasB l x && hasB l y
def stepsR (l : List Int) (x y : Int) : Int := if hasB2 l x y then stepsI l x y else 0

theorem st_any (A : Option Addr) (n c H : Nat) (l : List Int) (x y : Int) (w : World) (h : Rd w H A n l) (h1 : 1 ≤ n) (hn : n ≤ 7) (hx : x ∈ l) (hy : y ∈ l) :
    Calls Try.prog 68 #[.slice A n c, .int .i64 x, .int .i64 y] w fun e w' => e = .returned (.int .i64 (stepsI l x y)) ∧ w = w' := by
  have hX := fun W hW => Lib.hid (at_any A n c H l x W hW (by omega) hx)
  have hY := fun W hW => Lib.hid (at_any A n c H l y W hW (by omega) hy)
  have HX := Lib.hid hX
  have HY := Lib.hid hY
  have hidx : l.idxOf x < n := by rw [← h.len]; exact List.idxOf_lt_length_of_mem hx
  have hidy : l.idxOf y < n := by rw [← h.len]; exact List.idxOf_lt_length_of_mem hy
  have HL := Lib.hid h.len
  unfold stepsI
  rw [HL.out]
  clear hX hY hx hy
  generalize l.idxOf x = s at *
  generalize l.idxOf y = t at *
  go_enter Try.func68, Try.ntmps68
  go_wp2_with fail
  refine ((HY.out _ h).out).mono ?_
  rintro e w' ⟨rfl, rfl⟩
  go_wp2_with fail
  refine ((HX.out _ h).out).mono ?_
  rintro e w' ⟨rfl, rfl⟩
  go_wp2
  go_ret
  have e : ((t : Int) - (s : Int) + (n : Int)) % (n : Int) = ((t : Int) - (s : Int)) % (n : Int) := Int.add_emod_right ..
  exact ⟨by rw [← e]; rfl, rfl⟩

end Go.Proofs.Ythfbllgfcidhkaa
