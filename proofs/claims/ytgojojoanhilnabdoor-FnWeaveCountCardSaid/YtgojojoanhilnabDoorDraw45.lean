/- The laws' drawers of two halves of a ring: WeaveAll, WeaveCount. -/
import Derived.Test.YtgojojoanhilnabDoorDraw14
namespace Go.Proofs.YtgojojoanhilnabDoor
open Go.ChangeShapes Go.WideShapes Go.ChangeAt Go.RowKit

theorem drawWeaveAll_any (n c H : Nat) (A : Option Addr) (w : World) (hb : Byt w H A n) (hH : H ≤ w.heap.size) (hnc : n ≤ c) (hc : c ≤ 9223372036854775807) :
    Calls Tryd.prog 16 #[.slice A n c] w fun e w' => ∃ (v v' : Value) (m : Nat) (p q : List Int), e = .returned (.tuple #[.int .i64 (m : Int), v, v']) ∧ NewR w' v p ∧ NewR w' v' q ∧ (3 ≤ m ∧ m ≤ 6) ∧ Below w.heap.size w w' := by
  have HC := Lib.hid (halves92_any n c H A w hb hH hnc hc)
  clear hb
  go_enter Tryd.func16, Tryd.ntmps16
  go_wp2_with fail
  refine HC.out.mono ?_
  rintro e w1 ⟨v, v', m, p, q, rfl, h1, h2, hm, hb⟩
  obtain ⟨A1, n1, c1, rfl, h1'⟩ := h1
  obtain ⟨A2, n2, c2, rfl, h2'⟩ := h2
  go_wp2
  go_ret3
  exact ⟨_, _, m, p, q, rfl, ⟨A1, n1, c1, rfl, h1'⟩, ⟨A2, n2, c2, rfl, h2'⟩, hm, hb⟩
theorem drawWeaveCount_any (n c H : Nat) (A : Option Addr) (w : World) (hb : Byt w H A n) (hH : H ≤ w.heap.size) (hnc : n ≤ c) (hc : c ≤ 9223372036854775807) :
    Calls Tryd.prog 12 #[.slice A n c] w fun e w' => ∃ (v v' : Value) (m : Nat) (p q : List Int), e = .returned (.tuple #[.int .i64 (m : Int), v, v']) ∧ NewR w' v p ∧ NewR w' v' q ∧ (3 ≤ m ∧ m ≤ 6) ∧ Below w.heap.size w w' := by
  have HC := Lib.hid (halves92_any n c H A w hb hH hnc hc)
  clear hb
  go_enter Tryd.func12, Tryd.ntmps12
  go_wp2_with fail
  refine HC.out.mono ?_
  rintro e w1 ⟨v, v', m, p, q, rfl, h1, h2, hm, hb⟩
  obtain ⟨A1, n1, c1, rfl, h1'⟩ := h1
  obtain ⟨A2, n2, c2, rfl, h2'⟩ := h2
  go_wp2
  go_ret3
  exact ⟨_, _, m, p, q, rfl, ⟨A1, n1, c1, rfl, h1'⟩, ⟨A2, n2, c2, rfl, h2'⟩, hm, hb⟩
end Go.Proofs.YtgojojoanhilnabDoor
