/- Points of a ring: the program's look, the model's look. -/
import Derived.Test.YtheoepbcejlncaaIn
import Derived.Test.YtheoepbcejlncaaList
namespace Go.Proofs.Ytheoepbcejlncaa
open Go.ChangeShapes Go.WideShapes Go.ChangeAt Go.RowKit

/-- A ring and a point of it. -/
def hasB (l : List Int) (x : Int) : Bool := ringB l && decide (0 ≤ x ∧ x < l.length)

theorem hasS_any (A : Option Addr) (n c H : Nat) (l : List Int) (x : Int) (w : World) (h : Rd w H A n l) (hn : n ≤ 1048576) :
    Calls Try.prog 73 #[.slice A n c, .int .i64 x] w fun e w' => e = .returned (.bool (hasB l x)) ∧ w = w' := by
  have he := fun W hW => Lib.hid (ringS_any A n c H l W hW hn)
  have HE := Lib.hid he
  have HL := Lib.hid h.len
  clear he
  unfold hasB
  rw [HL.out]
  by_cases ht : Ring l
  · have h3 := ht.1.1
    rw [HL.out] at h3
    have e : decide (0 ≤ x ∧ x < (n : Int)) = (decide (0 ≤ x) && decide (x ≤ (n : Int) - 1)) := by
      rw [Bool.eq_iff_iff]; simp; omega
    rw [ring_yes ht] at HE ⊢
    rw [e]
    clear e ht
    go_enter Try.func73, Try.ntmps73
    go_wp2_with (first
      | (go_at_call 53; refine ((HE.out _ h).out).mono ?_; rintro e w' ⟨rfl, rfl⟩)
      | (go_at_call 58; refine (in_any _ _ _ _).mono ?_; rintro e w' ⟨rfl, rfl⟩))
    go_ret
    exact ⟨rfl, rfl⟩
  · rw [ring_no ht] at HE ⊢
    clear ht
    go_enter Try.func73, Try.ntmps73
    go_wp2_with (go_at_call 53; refine ((HE.out _ h).out).mono ?_; rintro e w' ⟨rfl, rfl⟩)
    go_ret
    exact ⟨rfl, rfl⟩

theorem hasB_yes {l : List Int} {x : Int} (h : hasB l x = true) : Ring l ∧ 0 ≤ x ∧ x < l.length ∧ x ∈ l := by
  simp only [hasB, ringB, Bool.and_eq_true, decide_eq_true_eq] at h
  exact ⟨h.1, h.2.1, h.2.2, h.1.1.has h.2.1 h.2.2⟩
end Go.Proofs.Ytheoepbcejlncaa
