/- The law on the number of rings: spec and program give the factorial of n - 1 for n from 3 to 7, and nothing else. -/
import Derived.Test.YtgojojoanhilnaaDoorMA
namespace Go.Proofs.YtgojojoanhilnaaDoor
open Go.ChangeShapes Go.WideShapes Go.ChangeAt Go.RowKit

def rcount (n : Int) : Int := if 3 ≤ n ∧ n ≤ 7 then facN (n.toNat - 1) else 0

theorem countI_any (n : Int) (w : World) :
    Calls Tryd.prog 18 #[.int .i64 n] w fun e w' => e = .returned (.tuple #[.int .i64 (rcount n), .bool (decide (3 ≤ n) && decide (n ≤ 7))]) ∧ w = w' := by
  by_cases h : 3 ≤ n ∧ n ≤ 7
  · have hb : (decide (3 ≤ n) && decide (n ≤ 7)) = true := by simpa using h
    have hr : rcount n = facN (n.toNat - 1) := by unfold rcount; rw [if_pos h]
    rw [hr, hb]
    obtain ⟨h1, h2⟩ := h
    clear hr
    go_enter Tryd.func18, Tryd.ntmps18
    go_wp2_with (first
      | (go_at_call 39; refine (sizeIn_any _ _).mono ?_; rintro e w' ⟨rfl, rfl⟩)
      | (go_at_call 40; refine (facI_any _ _ (by omega) (by omega)).mono ?_; rintro e w' ⟨rfl, rfl⟩))
    go_ret2
    exact ⟨rfl, rfl⟩
  · have hb : (decide (3 ≤ n) && decide (n ≤ 7)) = false := by simp; omega
    have hr : rcount n = 0 := by unfold rcount; rw [if_neg h]
    rw [hr, hb]
    clear hr h
    go_enter Tryd.func18, Tryd.ntmps18
    go_wp2_with (go_at_call 39; refine (sizeIn_any _ _).mono ?_; rintro e w' ⟨rfl, rfl⟩)
    go_ret2
    exact ⟨rfl, rfl⟩

end Go.Proofs.YtgojojoanhilnaaDoor
