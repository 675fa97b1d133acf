/- The laws' factorial. -/
import Derived.Test.YtgojojoanhilnaaDoorMA
namespace Go.Proofs.YtgojojoanhilnaaDoor
open Go.ChangeShapes Go.WideShapes Go.ChangeAt Go.RowKit

theorem facL_any (n : Int) (w : World) (h0 : 0 ≤ n) (h7 : n ≤ 7) :
    Calls Tryd.prog 10 #[.int .i64 n] w fun e w' => e = .returned (.int .i64 (facN n.toNat)) ∧ w = w' := by
  go_enter Tryd.func10, Tryd.ntmps10
  go_wp2
  go_loop [3, 4] (fun f i => (∃ k : Int, 2 ≤ k ∧ k ≤ 8 ∧ (k ≤ n + 1 ∨ k = 2) ∧ i = .int .i64 k ∧ f = .int .i64 (facN (k - 1).toNat))) (fun _ i => (9 - intOf i).toNat)
  case atStart => exact ⟨2, by omega, by omega, by omega, rfl, rfl⟩
  case round =>
    obtain ⟨k, h2, h8, hk, rfl, rfl⟩ := hrel
    obtain rfl | rfl | rfl | rfl | rfl | rfl | rfl : k = 2 ∨ k = 3 ∨ k = 4 ∨ k = 5 ∨ k = 6 ∨ k = 7 ∨ k = 8 := by omega
    all_goals
      go_wp2
      all_goals first
        | (go_round
           case rel => exact ⟨_, by omega, by omega, .inl (by omega), rfl, by simp [facN, wrap64]⟩
           case measure => simp [intOf])
        | (go_ret
           obtain rfl | rfl | rfl | rfl | rfl | rfl | rfl | rfl : n = 0 ∨ n = 1 ∨ n = 2 ∨ n = 3 ∨ n = 4 ∨ n = 5 ∨ n = 6 ∨ n = 7 := by omega
           all_goals first
             | exact ⟨rfl, rfl⟩
             | (exfalso; omega))
theorem facW_any (n : Nat) (w : World) (h7 : n ≤ 7) : Calls Tryd.prog 10 #[.int .i64 (n : Int)] w fun e w' => e = .returned (.int .i64 (facN n)) ∧ w = w' := by
  have := facL_any (n : Int) w (by omega) (by omega)
  rwa [Int.toNat_natCast] at this
end Go.Proofs.YtgojojoanhilnaaDoor
