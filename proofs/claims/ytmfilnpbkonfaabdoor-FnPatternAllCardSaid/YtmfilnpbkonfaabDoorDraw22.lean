/- The laws' drawer of a ring, for chapter 8. -/
import Derived.Test.YtmfilnpbkonfaabDoorDraw6
namespace Go.Proofs.YtmfilnpbkonfaabDoor
open Go.ChangeShapes Go.WideShapes Go.ChangeAt Go.RowKit

theorem drawPatternAll_any (n c H : Nat) (A : Option Addr) (w : World) (hb : Byt w H A n) (hH : H ≤ w.heap.size) (hnc : n ≤ c) (hc : c ≤ 9223372036854775807) :
    Calls Tryd.prog 19 #[.slice A n c] w fun e w' => ∃ v l, e = .returned v ∧ NewR w' v l ∧ (2 ≤ l.length ∧ l.length ≤ 7) ∧ Below w.heap.size w w' := by
  have HD := Lib.hid (one91_any n c H A w hb hH hnc hc)
  clear hb
  go_enter Tryd.func19, Tryd.ntmps19
  go_wp2_with fail
  refine HD.out.mono ?_
  rintro e w1 ⟨v, l, rfl, ⟨A1, n1, c1, rfl, hr1⟩, hl, hb⟩
  have HR := Lib.hid hr1
  clear hr1
  go_wp2
  go_ret
  exact ⟨_, l, rfl, ⟨A1, n1, c1, rfl, HR.out⟩, hl, hb⟩
end Go.Proofs.YtmfilnpbkonfaabDoor
