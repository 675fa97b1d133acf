/- The numbers of rings without a pattern of four points, told without asking rings: the model, the program. -/
import Derived.Test.YtmfilnpbkonfaaaDoorPR
import Derived.Test.YtmfilnpbkonfaaaDoorWA
import Derived.BigQuiet
import Derived.Deep.QuietTactic
namespace Go.Proofs.YtmfilnpbkonfaaaDoor
open Go.ChangeShapes Go.WideShapes Go.ChangeAt Go.RowKit

/-- The row in which each two numbers are added to the next one. -/
def fibN : Nat → Nat
  | 0 => 1
  | 1 => 1
  | n + 2 => fibN n + fibN (n + 1)
theorem fib_bd : ∀ k : Fin 14, fibN k.val ≤ 377 := by decide
def psA (n : Nat) : Int := [0, 0, 0, 2, 5, 13, 33, 80].getD n 0
def psF (n : Nat) : Int := [0, 0, 0, 2, 5, 13, 34, 89].getD n 0
def psC (n : Nat) : Int := [0, 0, 0, 2, 5, 12, 27, 58].getD n 0
/-- How many rings of n points are without the pattern number k of four points. -/
def psQ (n : Nat) (k : Int) : Int := if k = 0 ∨ k = 5 then psA n else if k = 2 ∨ k = 4 then psF n else psC n
def Psm (n : Int) (p : List Int) : Prop := (3 ≤ n ∧ n ≤ 7) ∧ Ring p ∧ p.length = 4
instance (n : Int) (p : List Int) : Decidable (Psm n p) := by unfold Psm; infer_instance
def psmB (n : Int) (p : List Int) : Bool := decide (Psm n p)
def psmR (n : Int) (p : List Int) : Int := if Psm n p then psQ n.toNat (numP p 4) else 0
theorem psmB_yes {n : Int} {p : List Int} (h : Psm n p) : psmB n p = true := by simpa [psmB] using h
theorem psmB_no {n : Int} {p : List Int} (h : ¬ Psm n p) : psmB n p = false := by simpa [psmB] using h

theorem fac8_any (n : Int) (w : World) (h0 : 0 ≤ n) (h7 : n ≤ 7) :
    Calls Tryd.prog 50 #[.int .i64 n] w fun e w' => e = .returned (.int .i64 (facN n.toNat)) ∧ w = w' := by
  go_enter Tryd.func50, Tryd.ntmps50
  go_wp2
  go_loop [3, 4] (fun f i => (∃ k : Int, 2 ≤ k ∧ k ≤ 8 ∧ (k ≤ n + 1 ∨ k = 2) ∧ i = .int .i64 k ∧ f = .int .i64 (facN (k - 1).toNat))) (fun _ i => (9 - intOf i).toNat)
  case atStart => exact ⟨2, by omega, by omega, by omega, rfl, rfl⟩
  case round =>
    obtain ⟨k, h2, h8, hk, rfl, rfl⟩ := hrel
    obtain rfl | rfl | rfl | rfl | rfl | rfl | rfl : k = 2 ∨ k = 3 ∨ k = 4 ∨ k = 5 ∨ k = 6 ∨ k = 7 ∨ k = 8 := by omega
    all_goals
      go_wp2
      all_goals first
        | (go_round
           case rel => exact ⟨_, by omega, by omega, .inl (by omega), rfl, by simp [facN, wrap64]⟩
           case measure => simp [intOf])
        | (go_ret
           obtain rfl | rfl | rfl | rfl | rfl | rfl | rfl | rfl : n = 0 ∨ n = 1 ∨ n = 2 ∨ n = 3 ∨ n = 4 ∨ n = 5 ∨ n = 6 ∨ n = 7 := by omega
           all_goals first
             | exact ⟨rfl, rfl⟩
             | (exfalso; omega))

def choN (n : Int) : Int := if n = 3 then 1 else if n = 4 then 4 else if n = 5 then 10 else if n = 6 then 20 else 35
set_option maxHeartbeats 1000000 in
theorem choose_any (n : Int) (w : World) (h3 : 3 ≤ n) (h7 : n ≤ 7) :
    Calls Tryd.prog 35 #[.int .i64 n, .int .i64 3] w fun e w' => e = .returned (.int .i64 (choN n)) ∧ w = w' := by
  have f0 : facN (Int.toNat 0) = 1 := rfl
  have f1 : facN (Int.toNat 1) = 1 := rfl
  have f2 : facN (Int.toNat 2) = 2 := rfl
  have f3 : facN (Int.toNat 3) = 6 := rfl
  have f4 : facN (Int.toNat 4) = 24 := rfl
  have f5 : facN (Int.toNat 5) = 120 := rfl
  have f6 : facN (Int.toNat 6) = 720 := rfl
  have f7 : facN (Int.toNat 7) = 5040 := rfl
  have HF := Lib.hid (fun (m : Int) (W : World) (h0 : 0 ≤ m) (h7 : m ≤ 7) => fac8_any m W h0 h7)
  obtain rfl | rfl | rfl | rfl | rfl : n = 3 ∨ n = 4 ∨ n = 5 ∨ n = 6 ∨ n = 7 := by omega
  all_goals
    go_enter Tryd.func35, Tryd.ntmps35
    go_wp2_with (go_at_call 50; refine (HF.out _ _ (by omega) (by omega)).mono ?_; rintro e w' ⟨rfl, rfl⟩; simp only [f0, f1, f2, f3, f4, f5, f6, f7])
    go_ret
    exact ⟨rfl, rfl⟩

theorem added_any (m : Nat) (w : World) (h1 : 1 ≤ m) (h11 : m ≤ 11) :
    Calls Tryd.prog 36 #[.int .i64 (m : Int)] w fun e w' => e = .returned (.int .i64 (fibN (m - 1) : Int)) ∧ w = w' := by
  have hm : IntKind.i64.wrap ((m : Int) - 1) = ((m - 1 : Nat) : Int) := by rw [IntKind.wrap_i64]; omega
  have HF := Lib.hid (fun k (hk : k < 14) => fib_bd ⟨k, hk⟩)
  have HS : Hid (∀ k, fibN (k + 2) = fibN k + fibN (k + 1)) := fun _ => rfl
  obtain ⟨N, hN⟩ : ∃ N, N = m - 1 := ⟨_, rfl⟩
  rw [← hN] at hm ⊢
  go_enter Tryd.func36, Tryd.ntmps36
  go_wp2
  go_loop [3, 4, 7] (fun x y i => ∃ k : Nat, k ≤ N ∧ i = .int .i64 k ∧ x = .int .i64 (fibN k : Int) ∧ y = .int .i64 (fibN (k + 1) : Int)) (fun _ _ i => N - (intOf i).toNat)
  case atStart => exact ⟨0, Nat.zero_le _, rfl, rfl, rfl⟩
  case round =>
    obtain ⟨k, hk, rfl, rfl, rfl⟩ := hrel
    have b1 := HF.out k (by omega)
    have b2 := HF.out (k + 1) (by omega)
    have T := HS.out k
    by_cases hlt : k < N
    · obtain ⟨x, hx⟩ : ∃ x, x = fibN k := ⟨_, rfl⟩
      obtain ⟨y, hy⟩ : ∃ y, y = fibN (k + 1) := ⟨_, rfl⟩
      rw [← hx] at b1 T ⊢
      rw [← hy] at b2 T ⊢
      have HT := Lib.hid T
      have HY := Lib.hid hy
      clear T hx hy
      go_wp2
      go_round
      case rel => exact ⟨k + 1, by omega, by go_num, by rw [HY.out], by rw [HT.out]; go_num⟩
      case measure => simp [intOf]; omega
    · obtain rfl : k = N := by omega
      go_wp2
      go_ret
      exact ⟨rfl, rfl⟩
end Go.Proofs.YtmfilnpbkonfaaaDoor
