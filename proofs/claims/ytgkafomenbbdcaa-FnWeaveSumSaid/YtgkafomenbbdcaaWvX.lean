/- WeaveIn of the model and of the program. -/
import Derived.Test.YtgkafomenbbdcaaWvT
namespace Go.Proofs.Ytgkafomenbbdcaa
open Go.ChangeShapes Go.WideShapes Go.ChangeAt Go.RowKit

theorem wiS_drew (A : Option Addr) (m c H : Nat) (n : Int) (l : List Int) (w : World) (h : Rd w H A m l) (hm : m ≤ 1048576) :
    Calls Try.prog 56 #[.int .i64 n, .slice A m c] w fun e w' => e = .returned (.bool (prt n l)) ∧ ∃ q, w' = w.drewN q := by
  have HC := Lib.hid (l6wIn_any A m c H l n w h hm)
  generalize prt n l = r at *
  clear h
  go_enter Try.func56, Try.ntmps56
  go_wp2_with fail
  refine HC.out.mono ?_
  rintro e w' ⟨rfl, q, rfl⟩
  go_wp2
  go_ret
  exact ⟨rfl, q, rfl⟩
theorem wiS_any (A : Option Addr) (m c H : Nat) (n : Int) (l : List Int) (w : World) (h : Rd w H A m l) (_ : H ≤ w.heap.size) (hm : m ≤ 1048576) :
    Calls Try.prog 56 #[.int .i64 n, .slice A m c] w fun e w' => e = .returned (.bool (prt n l)) ∧ Below w.heap.size w w' :=
  (wiS_drew A m c H n l w h hm).mono fun e w' ⟨a, q, b⟩ => ⟨a, by subst b; exact below_drewN (Below.refl _ _) _⟩
theorem wiI_any (A : Option Addr) (m c H : Nat) (n : Int) (l : List Int) (w : World) (h : Rd w H A m l) (hH : H ≤ w.heap.size) (hm : m ≤ 1048576) (hmc : m ≤ c) (hcm : c ≤ 9223372036854775807) :
    Calls Try.prog 58 #[.int .i64 n, .slice A m c] w fun e w' => e = .returned (.bool (prt n l)) ∧ Below w.heap.size w w' := by
  have HC := Lib.hid (readPart_any A m c H l n w h hH hm hmc hcm)
  generalize prt n l = r at *
  clear h
  go_enter Try.func58, Try.ntmps58
  go_wp2_with fail
  refine HC.out.mono ?_
  rintro e w' ⟨v, rfl, hr, hb⟩
  obtain ⟨A1, c1, rfl, _⟩ := hr.2
  clear hr
  go_wp2
  go_ret
  exact ⟨rfl, hb⟩
end Go.Proofs.Ytgkafomenbbdcaa
