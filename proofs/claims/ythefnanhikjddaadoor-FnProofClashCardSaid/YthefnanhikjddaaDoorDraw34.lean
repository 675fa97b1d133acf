/- The drawer of FnProofClash. -/
import Derived.Test.YthefnanhikjddaaDoorDraw32
namespace Go.Proofs.YthefnanhikjddaaDoor
open Go.ChangeShapes Go.WideShapes Go.ChangeAt Go.RowKit

theorem drawProofClash_any (n c H : Nat) (A : Option Addr) (w : World) (hb : Byt w H A n) (hH : H ≤ w.heap.size) (hnc : n ≤ c) (hc : c ≤ 9223372036854775807) :
    Calls Tryd.prog 6 #[.slice A n c] w (TelX w) := by
  have HT := Lib.hid (drawTClash_any n c H A w hb hH hnc hc)
  clear hb
  go_enter Tryd.func6, Tryd.ntmps6
  go_wp2_with fail
  refine HT.out.mono ?_
  rintro e w1 ⟨m, A1, n1, c1, L, rfl, hr, hx, hb⟩
  clear HT
  have HR := Lib.hid hr
  have HX := Lib.hid hx
  have HB := Lib.hid hb
  clear hr hx hb
  go_wp2
  go_ret2
  exact ⟨m, A1, n1, c1, L, rfl, HR.out, HX.out, HB.out⟩
end Go.Proofs.YthefnanhikjddaaDoor
