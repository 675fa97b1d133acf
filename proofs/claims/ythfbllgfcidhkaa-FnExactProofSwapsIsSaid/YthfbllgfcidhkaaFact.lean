/- The factorials of the program and of the model, each by its contract, for arguments from 0 to 6. -/
import Derived.Test.YthfbllgfcidhkaaBase
import Derived.WalkKit
import Derived.ProofKit
import Derived.OpenShut
import Derived.Lib.Hide
namespace Go.Proofs.Ythfbllgfcidhkaa
open Go.ChangeShapes Go.WideShapes Go.ChangeAt Go.RowKit

def facN : Nat → Int
  | 0 => 1
  | 1 => 1
  | 2 => 2
  | 3 => 6
  | 4 => 24
  | 5 => 120
  | 6 => 720
  | _ => 5040

theorem facI_any (n : Int) (w : World) (h0 : 0 ≤ n) (h6 : n ≤ 6) :
    Calls Try.prog 100 #[.int .i64 n] w fun e w' => e = .returned (.int .i64 (facN n.toNat)) ∧ w = w' := by
  go_enter Try.func100, Try.ntmps100
  go_wp2
  go_loop [3, 4] (fun f i => (∃ k : Int, 2 ≤ k ∧ k ≤ 7 ∧ (k ≤ n + 1 ∨ k = 2) ∧ i = .int .i64 k ∧ f = .int .i64 (facN (k - 1).toNat))) (fun _ i => (8 - intOf i).toNat)
  case atStart => exact ⟨2, by omega, by omega, by omega, rfl, rfl⟩
  case round =>
    obtain ⟨k, h2, h7, hk, rfl, rfl⟩ := hrel
    obtain rfl | rfl | rfl | rfl | rfl | rfl : k = 2 ∨ k = 3 ∨ k = 4 ∨ k = 5 ∨ k = 6 ∨ k = 7 := by omega
    all_goals
      go_wp2
      all_goals first
        | (go_round
           case rel => exact ⟨_, by omega, by omega, .inl (by omega), rfl, by simp [facN, wrap64]⟩
           case measure => simp [intOf])
        | (go_ret
           obtain rfl | rfl | rfl | rfl | rfl | rfl | rfl : n = 0 ∨ n = 1 ∨ n = 2 ∨ n = 3 ∨ n = 4 ∨ n = 5 ∨ n = 6 := by omega
           all_goals first
             | exact ⟨rfl, rfl⟩
             | (exfalso; omega))

theorem facS_any (n : Int) (w : World) (h0 : 0 ≤ n) (h6 : n ≤ 6) :
    Calls Try.prog 80 #[.int .i64 n] w fun e w' => e = .returned (.int .i64 (facN n.toNat)) ∧ w = w' := by
  go_enter Try.func80, Try.ntmps80
  go_wp2
  go_loop [3, 4] (fun f i => (∃ k : Int, 2 ≤ k ∧ k ≤ 7 ∧ (k ≤ n + 1 ∨ k = 2) ∧ i = .int .i64 k ∧ f = .int .i64 (facN (k - 1).toNat))) (fun _ i => (8 - intOf i).toNat)
  case atStart => exact ⟨2, by omega, by omega, by omega, rfl, rfl⟩
  case round =>
    obtain ⟨k, h2, h7, hk, rfl, rfl⟩ := hrel
    obtain rfl | rfl | rfl | rfl | rfl | rfl : k = 2 ∨ k = 3 ∨ k = 4 ∨ k = 5 ∨ k = 6 ∨ k = 7 := by omega
    all_goals
      go_wp2
      all_goals first
        | (go_round
           case rel => exact ⟨_, by omega, by omega, .inl (by omega), rfl, by simp [facN, wrap64]⟩
           case measure => simp [intOf])
        | (go_ret
           obtain rfl | rfl | rfl | rfl | rfl | rfl | rfl : n = 0 ∨ n = 1 ∨ n = 2 ∨ n = 3 ∨ n = 4 ∨ n = 5 ∨ n = 6 := by omega
           all_goals first
             | exact ⟨rfl, rfl⟩
             | (exfalso; omega))


theorem sizeIn_any (n : Int) (w : World) :
    Calls Try.prog 96 #[.int .i64 n] w fun e w' => e = .returned (.bool (decide (3 ≤ n) && decide (n ≤ 7))) ∧ w = w' := by
  by_cases h : 3 ≤ n
  all_goals
    go_enter Try.func96, Try.ntmps96
    go_wp2
    all_goals
      go_ret
      exact ⟨by first | (simp_all; done) | (simp_all; omega), rfl⟩

theorem in_any (n a b : Int) (w : World) :
    Calls Try.prog 40 #[.int .i64 n, .int .i64 a, .int .i64 b] w fun e w' => e = .returned (.bool (decide (a ≤ n) && decide (n ≤ b))) ∧ w = w' := by
  by_cases h : a ≤ n
  all_goals
    go_enter Try.func40, Try.ntmps40
    go_wp2
    all_goals
      go_ret
      exact ⟨by first | (simp_all; done) | (simp_all; omega), rfl⟩

end Go.Proofs.Ythfbllgfcidhkaa
