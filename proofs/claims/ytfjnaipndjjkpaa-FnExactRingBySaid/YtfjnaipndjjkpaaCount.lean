/- The law on the number of rings: spec and program give the factorial of n - 1 for n from 3 to 7, and nothing else. -/
import Derived.Test.YtfjnaipndjjkpaaFact
namespace Go.Proofs.Ytfjnaipndjjkpaa
open Go.ChangeShapes Go.WideShapes Go.ChangeAt Go.RowKit

def rcount (n : Int) : Int := if 3 ≤ n ∧ n ≤ 7 then facN (n.toNat - 1) else 0

theorem countS_any (n : Int) (w : World) :
    Calls Try.prog 39 #[.int .i64 n] w fun e w' => e = .returned (.tuple #[.int .i64 (rcount n), .bool (decide (3 ≤ n) && decide (n ≤ 7))]) ∧ w = w' := by
  by_cases h : 3 ≤ n ∧ n ≤ 7
  · have hb : (decide (3 ≤ n) && decide (n ≤ 7)) = true := by simpa using h
    have hr : rcount n = facN (n.toNat - 1) := by unfold rcount; rw [if_pos h]
    rw [hr, hb]
    obtain ⟨h1, h2⟩ := h
    clear hr
    go_enter Try.func39, Try.ntmps39
    go_wp2_with (first
      | (go_at_call 61; refine (in_any _ _ _ _).mono ?_; rintro e w' ⟨rfl, rfl⟩)
      | (go_at_call 62; refine (facS_any _ _ (by omega) (by omega)).mono ?_; rintro e w' ⟨rfl, rfl⟩))
    go_ret2
    exact ⟨rfl, rfl⟩
  · have hb : (decide (3 ≤ n) && decide (n ≤ 7)) = false := by simp; omega
    have hr : rcount n = 0 := by unfold rcount; rw [if_neg h]
    rw [hr, hb]
    clear hr h
    go_enter Try.func39, Try.ntmps39
    go_wp2_with (go_at_call 61; refine (in_any _ _ _ _).mono ?_; rintro e w' ⟨rfl, rfl⟩)
    go_ret2
    exact ⟨rfl, rfl⟩

theorem countI_any (n : Int) (w : World) :
    Calls Try.prog 40 #[.int .i64 n] w fun e w' => e = .returned (.tuple #[.int .i64 (rcount n), .bool (decide (3 ≤ n) && decide (n ≤ 7))]) ∧ w = w' := by
  by_cases h : 3 ≤ n ∧ n ≤ 7
  · have hb : (decide (3 ≤ n) && decide (n ≤ 7)) = true := by simpa using h
    have hr : rcount n = facN (n.toNat - 1) := by unfold rcount; rw [if_pos h]
    rw [hr, hb]
    obtain ⟨h1, h2⟩ := h
    clear hr
    go_enter Try.func40, Try.ntmps40
    go_wp2_with (first
      | (go_at_call 65; refine (sizeIn_any _ _).mono ?_; rintro e w' ⟨rfl, rfl⟩)
      | (go_at_call 66; refine (facI_any _ _ (by omega) (by omega)).mono ?_; rintro e w' ⟨rfl, rfl⟩))
    go_ret2
    exact ⟨rfl, rfl⟩
  · have hb : (decide (3 ≤ n) && decide (n ≤ 7)) = false := by simp; omega
    have hr : rcount n = 0 := by unfold rcount; rw [if_neg h]
    rw [hr, hb]
    clear hr h
    go_enter Try.func40, Try.ntmps40
    go_wp2_with (go_at_call 65; refine (sizeIn_any _ _).mono ?_; rintro e w' ⟨rfl, rfl⟩)
    go_ret2
    exact ⟨rfl, rfl⟩

theorem law_RingCount (a0 : Int) (_ : (Lit.int .i64 a0).wf = true) (w : World) :
    Calls Try.prog 13 #[.int .i64 a0] w fun e w' => e = .returned (.bool true) ∧ Grown w w' := by
  obtain ⟨b, hb⟩ : ∃ b, b = (decide (3 ≤ a0) && decide (a0 ≤ 7)) := ⟨_, rfl⟩
  have hS := countS_any a0
  have hI := countI_any a0
  rw [← hb] at hS hI
  clear hb
  generalize rcount a0 = c at hS hI
  have HS := Lib.hid hS
  have HI := Lib.hid hI
  clear hS hI
  go_enter Try.func13, Try.ntmps13
  go_wp2_with (first
    | (go_at_call 39; refine (HS.out _).mono ?_; rintro e w' ⟨rfl, rfl⟩)
    | (go_at_call 40; refine (HI.out _).mono ?_; rintro e w' ⟨rfl, rfl⟩))
  go_ret
  exact ⟨rfl, Grown.refl _⟩
end Go.Proofs.Ytfjnaipndjjkpaa
