/- Windings of the model: two rings, steps along, their sum, falls. -/
import Derived.Test.YtamnacgclhaggabWindM
import Derived.Test.YtamnacgclhaggabPR
import Derived.Test.YtamnacgclhaggabTwo
import Derived.Test.YtamnacgclhaggabMA
import Derived.BigQuiet
import Derived.Deep.QuietTactic
namespace Go.Proofs.Ytamnacgclhaggab
open Go.ChangeShapes Go.WideShapes Go.ChangeAt Go.RowKit

theorem pathL_snocI (a b : List Int) (k : Nat) (h : k < a.length) : ints ((pathL a b).take k) ++ [.int .i64 (stepN a b k)] = ints ((pathL a b).take (k + 1)) := by
  rw [← pathL_snoc a b k h]
  simp [ints]
theorem twoS_any (A0 : Option Addr) (n0 c0 : Nat) (A1 : Option Addr) (n1 c1 H : Nat) (l0 l1 : List Int) (w : World) (h0 : Rd w H A0 n0 l0) (h1 : Rd w H A1 n1 l1) (hn0 : n0 ≤ 1048576) (hn1 : n1 ≤ 1048576) :
    Calls Try.prog 91 #[.slice A0 n0 c0, .slice A1 n1 c1] w fun e w' => e = .returned (.bool (twoB l0 l1)) ∧ w = w' := by
  have HR0 := Lib.hid (ringS_any A0 n0 c0 H l0 w h0 hn0)
  have HR1 := Lib.hid (ringS_any A1 n1 c1 H l1 w h1 hn1)
  have L0 := h0.len
  have L1 := h1.len
  have HT : Hid (twoB l0 l1 = (ringB l0 && (ringB l1 && decide ((n0 : Int) = (n1 : Int))))) := by
    rw [Hid, twoB, ringB, ringB, ← Bool.decide_and, ← Bool.decide_and, decide_eq_decide, TwoR, L0, L1]
    exact ⟨fun h => ⟨h.1, h.2.1, by have := h.2.2; omega⟩, fun h => ⟨h.1, h.2.1, by have := h.2.2; omega⟩⟩
  rw [HT.out]
  clear h0 h1 HT L0 L1
  generalize ringB l0 = b0 at *
  generalize ringB l1 = b1 at *
  cases b0 with
  | false =>
    go_enter Try.func91, Try.ntmps91
    go_wp2_with (go_at_call_of 52 (Value.slice A0 n0 c0); refine HR0.out.mono ?_; rintro e w' ⟨rfl, rfl⟩)
    go_ret
    exact ⟨rfl, rfl⟩
  | true =>
    cases b1 with
    | false =>
      go_enter Try.func91, Try.ntmps91
      go_wp2_with (first
        | (go_at_call_of 52 (Value.slice A0 n0 c0); refine HR0.out.mono ?_; rintro e w' ⟨rfl, rfl⟩)
        | (go_at_call_of 52 (Value.slice A1 n1 c1); refine HR1.out.mono ?_; rintro e w' ⟨rfl, rfl⟩))
      go_ret
      exact ⟨rfl, rfl⟩
    | true =>
      go_enter Try.func91, Try.ntmps91
      go_wp2_with (first
        | (go_at_call_of 52 (Value.slice A0 n0 c0); refine HR0.out.mono ?_; rintro e w' ⟨rfl, rfl⟩)
        | (go_at_call_of 52 (Value.slice A1 n1 c1); refine HR1.out.mono ?_; rintro e w' ⟨rfl, rfl⟩))
      go_ret
      exact ⟨by first | rfl | simp, rfl⟩

end Go.Proofs.Ytamnacgclhaggab
