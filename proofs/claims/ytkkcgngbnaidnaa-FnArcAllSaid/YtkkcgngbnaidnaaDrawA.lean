/- The drawer of the law on all arcs; a contract. -/
import Derived.Test.YtkkcgngbnaidnaaDraw6
import Derived.Test.YtkkcgngbnaidnaaArI
namespace Go.Proofs.Ytkkcgngbnaidnaa
open Go.ChangeShapes Go.WideShapes Go.ChangeAt Go.RowKit

theorem drawArcAll_any (n c H : Nat) (A : Option Addr) (w : World) (hb : Byt w H A n) (hH : H ≤ w.heap.size) (hnc : n ≤ c) (hc : c ≤ 9223372036854775807) :
    Calls Try.prog 5 #[.slice A n c] w fun e w' => ∃ v l, e = .returned v ∧ NewR w' v l ∧ (2 ≤ l.length ∧ l.length ≤ 7) ∧ Below w.heap.size w w' := by
  have HD := Lib.hid (one91_any n c H A w hb hH hnc hc)
  clear hb
  go_enter Try.func5, Try.ntmps5
  go_wp2_with fail
  refine HD.out.mono ?_
  rintro e w1 ⟨v, l, rfl, ⟨A1, n1, c1, rfl, hr1⟩, hl, hb⟩
  have HR := Lib.hid hr1
  clear hr1
  go_wp2
  go_ret
  exact ⟨_, l, rfl, ⟨A1, n1, c1, rfl, HR.out⟩, hl, hb⟩
theorem cI_ArcIsA {w : World} {A : Option Addr} {n c : Nat} {L : List Int} (h : Rw w A n c L) (s : Int) : Calls Try.prog 9 #[.slice A n c, .int .i64 s] w fun e w' => e = .returned (.bool (arcB L s)) ∧ Below w.heap.size w w' :=
  isI_any A n c w.heap.size L s w h.rd (Nat.le_refl _) h.big h.2.1 h.2.2.1
end Go.Proofs.Ytkkcgngbnaidnaa
