/- The laws' drawers of a ring and a set, of a ring, for chapter 8. -/
import Derived.Test.YtmfilnpbkonfaabDoorDraw15
namespace Go.Proofs.YtmfilnpbkonfaabDoor
open Go.ChangeShapes Go.WideShapes Go.ChangeAt Go.RowKit

theorem drawPatternOf_any (n c H : Nat) (A : Option Addr) (w : World) (hb : Byt w H A n) (hH : H ≤ w.heap.size) (hnc : n ≤ c) (hc : c ≤ 9223372036854775807) :
    Calls Tryd.prog 16 #[.slice A n c] w fun e w' => ∃ v l x, e = .returned (.tuple #[v, .int .i64 x]) ∧ NewR w' v l ∧ (2 ≤ l.length ∧ l.length ≤ 7) ∧ Below w.heap.size w w' := by
  have HD := Lib.hid (set92_any n c H A w hb hH hnc hc)
  clear hb
  go_enter Tryd.func16, Tryd.ntmps16
  go_wp2_with fail
  refine HD.out.mono ?_
  rintro e w1 ⟨v, l, x, rfl, ⟨A1, n1, c1, rfl, hr1⟩, hl, hb⟩
  have HR := Lib.hid hr1
  clear hr1
  go_wp2
  go_ret2
  exact ⟨_, l, x, rfl, ⟨A1, n1, c1, rfl, HR.out⟩, hl, hb⟩
end Go.Proofs.YtmfilnpbkonfaabDoor
