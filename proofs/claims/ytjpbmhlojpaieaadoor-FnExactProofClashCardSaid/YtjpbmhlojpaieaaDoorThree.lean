/- Threes: what they are; the model's check of one. -/
import Derived.Test.YtjpbmhlojpaieaaDoorFill
namespace Go.Proofs.YtjpbmhlojpaieaaDoor
open Go.ChangeShapes Go.WideShapes Go.ChangeAt Go.RowKit

/-- Three different points of n. -/
def Thr (n : Int) (l : List Int) : Prop := l.length = 3 ∧ (∀ x ∈ l, 0 ≤ x ∧ x < n) ∧ l.Nodup
instance (n : Int) (l : List Int) : Decidable (Thr n l) := by unfold Thr; infer_instance
def thr (n : Int) (l : List Int) : Bool := decide (Thr n l)
theorem thr3 (n x y z : Int) : Thr n [x, y, z] ↔ (0 ≤ x ∧ x ≤ n - 1) ∧ (0 ≤ y ∧ y ≤ n - 1) ∧ (0 ≤ z ∧ z ≤ n - 1) ∧ x ≠ y ∧ x ≠ z ∧ y ≠ z := by
  simp only [Thr, List.mem_cons, List.not_mem_nil, or_false, List.nodup_cons, List.nodup_nil, and_true, forall_eq_or_imp, forall_eq, List.length_cons, List.length_nil]
  constructor
  · rintro ⟨_, ⟨hx, hy, hz⟩, h1, h2, _⟩
    refine ⟨by omega, by omega, by omega, ?_, ?_, ?_⟩ <;> intro e <;> simp_all
  · rintro ⟨hx, hy, hz, h1, h2, h3⟩
    refine ⟨trivial, ⟨by omega, by omega, by omega⟩, ?_, ?_, ?_⟩ <;> simp_all
theorem of_three {l : List Int} (h : l.length = 3) : ∃ x y z, l = [x, y, z] := by
  match l, h with
  | [x, y, z], _ => exact ⟨x, y, z, rfl⟩

section
variable {w : World} {H b o : Nat} {x y z : Int}
theorem rd3 {A : Option Addr} (h : Rd w H A 3 [x, y, z]) : ∃ b o, A = some ⟨b, o, none⟩ ∧ b < H ∧ w.cell? ⟨b, o, none⟩ = some (.int .i64 x) ∧ w.cell? ⟨b, o + 1, none⟩ = some (.int .i64 y) ∧ w.cell? ⟨b, o + 2, none⟩ = some (.int .i64 z) := by
  obtain ⟨b, o, e, hb, hc⟩ := h.at_ (by omega)
  exact ⟨b, o, e, hb, hc 0 (by omega), hc 1 (by omega), hc 2 (by omega)⟩
end

theorem in_yes (x a b : Int) (w : World) (h : (decide (a ≤ x) && decide (x ≤ b)) = true) : Calls Tryd.prog 27 #[.int .i64 x, .int .i64 a, .int .i64 b] w fun e w' => e = .returned (.bool true) ∧ w' = w :=
  (in_any x a b w).mono (by rintro e w' ⟨rfl, rfl⟩; exact ⟨by rw [h], rfl⟩)
theorem in_no (x a b : Int) (w : World) (h : (decide (a ≤ x) && decide (x ≤ b)) = false) : Calls Tryd.prog 27 #[.int .i64 x, .int .i64 a, .int .i64 b] w fun e w' => e = .returned (.bool false) ∧ w' = w :=
  (in_any x a b w).mono (by rintro e w' ⟨rfl, rfl⟩; exact ⟨by rw [h], rfl⟩)

set_option maxHeartbeats 1000000 in
theorem l2Three_any (A : Option Addr) (m c H : Nat) (l : List Int) (n : Int) (w : World) (h : Rd w H A m l) (hm : m ≤ 9223372036854775807) (h3 : 3 ≤ n) (h7 : n ≤ 7) :
    Calls Tryd.prog 61 #[.int .i64 n, .slice A m c] w fun e w' => e = .returned (.bool (thr n l)) ∧ ∃ q, w' = w.drewN q := by
  by_cases hm3 : m = 3
  · subst hm3
    obtain ⟨x, y, z, rfl⟩ := of_three h.len
    obtain ⟨b, o, rfl, hbH, c0, c1, c2⟩ := rd3 h
    have key := thr3 n x y z
    have hr : thr n [x, y, z] = decide ((0 ≤ x ∧ x ≤ n - 1) ∧ (0 ≤ y ∧ y ≤ n - 1) ∧ (0 ≤ z ∧ z ≤ n - 1) ∧ x ≠ y ∧ x ≠ z ∧ y ≠ z) := by
      simp only [thr, decide_eq_decide]; exact key
    rw [hr]
    clear h key hr
    by_cases p0 : 0 ≤ x ∧ x ≤ n - 1
    rotate_left
    · have hr : decide ((0 ≤ x ∧ x ≤ n - 1) ∧ (0 ≤ y ∧ y ≤ n - 1) ∧ (0 ≤ z ∧ z ≤ n - 1) ∧ x ≠ y ∧ x ≠ z ∧ y ≠ z) = false := by simp only [decide_eq_false_iff_not]; intro hh; exact p0 hh.1
      rw [hr]
      have Ix := Lib.hid (show (decide (0 ≤ x) && decide (x ≤ n - 1)) = false by simp; omega)
      clear hr p0
      go_enter Tryd.func61, Tryd.ntmps61
      go_wp2
      go_quiet (first | (go_at_call_of 27 x; refine Calls.quiet_of_same ((in_no x 0 (n - 1) _ ?_)); exact Ix.out))
      go_wp2
      go_ret
      exact ⟨rfl, nq, rfl⟩
    have Ix := Lib.hid (show (decide (0 ≤ x) && decide (x ≤ n - 1)) = true by simp; omega)
    by_cases p1 : 0 ≤ y ∧ y ≤ n - 1
    rotate_left
    · have hr : decide ((0 ≤ x ∧ x ≤ n - 1) ∧ (0 ≤ y ∧ y ≤ n - 1) ∧ (0 ≤ z ∧ z ≤ n - 1) ∧ x ≠ y ∧ x ≠ z ∧ y ≠ z) = false := by simp only [decide_eq_false_iff_not]; intro hh; exact p1 hh.2.1
      rw [hr]
      have Iy := Lib.hid (show (decide (0 ≤ y) && decide (y ≤ n - 1)) = false by simp; omega)
      clear hr p1
      go_enter Tryd.func61, Tryd.ntmps61
      go_wp2
      go_quiet (first | (go_at_call_of 27 x; refine Calls.quiet_of_same ((in_yes x 0 (n - 1) _ ?_)); exact Ix.out) | (go_at_call_of 27 y; refine Calls.quiet_of_same ((in_no y 0 (n - 1) _ ?_)); exact Iy.out))
      go_wp2
      go_ret
      exact ⟨rfl, nq, rfl⟩
    have Iy := Lib.hid (show (decide (0 ≤ y) && decide (y ≤ n - 1)) = true by simp; omega)
    by_cases p2 : 0 ≤ z ∧ z ≤ n - 1
    rotate_left
    · have hr : decide ((0 ≤ x ∧ x ≤ n - 1) ∧ (0 ≤ y ∧ y ≤ n - 1) ∧ (0 ≤ z ∧ z ≤ n - 1) ∧ x ≠ y ∧ x ≠ z ∧ y ≠ z) = false := by simp only [decide_eq_false_iff_not]; intro hh; exact p2 hh.2.2.1
      rw [hr]
      have Iz := Lib.hid (show (decide (0 ≤ z) && decide (z ≤ n - 1)) = false by simp; omega)
      clear hr p2
      go_enter Tryd.func61, Tryd.ntmps61
      go_wp2
      go_quiet (first | (go_at_call_of 27 x; refine Calls.quiet_of_same ((in_yes x 0 (n - 1) _ ?_)); exact Ix.out) | (go_at_call_of 27 y; refine Calls.quiet_of_same ((in_yes y 0 (n - 1) _ ?_)); exact Iy.out) | (go_at_call_of 27 z; refine Calls.quiet_of_same ((in_no z 0 (n - 1) _ ?_)); exact Iz.out))
      go_wp2
      go_ret
      exact ⟨rfl, nq, rfl⟩
    have Iz := Lib.hid (show (decide (0 ≤ z) && decide (z ≤ n - 1)) = true by simp; omega)
    by_cases p3 : x ≠ y
    rotate_left
    · have hr : decide ((0 ≤ x ∧ x ≤ n - 1) ∧ (0 ≤ y ∧ y ≤ n - 1) ∧ (0 ≤ z ∧ z ≤ n - 1) ∧ x ≠ y ∧ x ≠ z ∧ y ≠ z) = false := by simp only [decide_eq_false_iff_not]; intro hh; exact p3 hh.2.2.2.1
      rw [hr]
      have e3 : (x != y) = false := by simpa using p3
      clear hr p3
      go_enter Tryd.func61, Tryd.ntmps61
      go_wp2
      go_quiet (first | (go_at_call_of 27 x; refine Calls.quiet_of_same ((in_yes x 0 (n - 1) _ ?_)); exact Ix.out) | (go_at_call_of 27 y; refine Calls.quiet_of_same ((in_yes y 0 (n - 1) _ ?_)); exact Iy.out) | (go_at_call_of 27 z; refine Calls.quiet_of_same ((in_yes z 0 (n - 1) _ ?_)); exact Iz.out))
      go_wp2
      go_ret
      exact ⟨rfl, nq, rfl⟩
    have e3 : (x != y) = true := by simpa using p3
    by_cases p4 : x ≠ z
    rotate_left
    · have hr : decide ((0 ≤ x ∧ x ≤ n - 1) ∧ (0 ≤ y ∧ y ≤ n - 1) ∧ (0 ≤ z ∧ z ≤ n - 1) ∧ x ≠ y ∧ x ≠ z ∧ y ≠ z) = false := by simp only [decide_eq_false_iff_not]; intro hh; exact p4 hh.2.2.2.2.1
      rw [hr]
      have e4 : (x != z) = false := by simpa using p4
      clear hr p4
      go_enter Tryd.func61, Tryd.ntmps61
      go_wp2
      go_quiet (first | (go_at_call_of 27 x; refine Calls.quiet_of_same ((in_yes x 0 (n - 1) _ ?_)); exact Ix.out) | (go_at_call_of 27 y; refine Calls.quiet_of_same ((in_yes y 0 (n - 1) _ ?_)); exact Iy.out) | (go_at_call_of 27 z; refine Calls.quiet_of_same ((in_yes z 0 (n - 1) _ ?_)); exact Iz.out))
      go_wp2
      go_ret
      exact ⟨rfl, nq, rfl⟩
    have e4 : (x != z) = true := by simpa using p4
    by_cases p5 : y ≠ z
    rotate_left
    · have hr : decide ((0 ≤ x ∧ x ≤ n - 1) ∧ (0 ≤ y ∧ y ≤ n - 1) ∧ (0 ≤ z ∧ z ≤ n - 1) ∧ x ≠ y ∧ x ≠ z ∧ y ≠ z) = false := by simp only [decide_eq_false_iff_not]; intro hh; exact p5 hh.2.2.2.2.2
      rw [hr]
      have e5 : (y != z) = false := by simpa using p5
      clear hr p5
      go_enter Tryd.func61, Tryd.ntmps61
      go_wp2
      go_quiet (first | (go_at_call_of 27 x; refine Calls.quiet_of_same ((in_yes x 0 (n - 1) _ ?_)); exact Ix.out) | (go_at_call_of 27 y; refine Calls.quiet_of_same ((in_yes y 0 (n - 1) _ ?_)); exact Iy.out) | (go_at_call_of 27 z; refine Calls.quiet_of_same ((in_yes z 0 (n - 1) _ ?_)); exact Iz.out))
      go_wp2
      go_ret
      exact ⟨rfl, nq, rfl⟩
    have e5 : (y != z) = true := by simpa using p5
    have hr : decide ((0 ≤ x ∧ x ≤ n - 1) ∧ (0 ≤ y ∧ y ≤ n - 1) ∧ (0 ≤ z ∧ z ≤ n - 1) ∧ x ≠ y ∧ x ≠ z ∧ y ≠ z) = true := by simp only [decide_eq_true_eq]; exact ⟨p0, p1, p2, p3, p4, p5⟩
    rw [hr]
    clear hr p0 p1 p2 p3 p4 p5
    go_enter Tryd.func61, Tryd.ntmps61
    go_wp2
    go_quiet (first | (go_at_call_of 27 x; refine Calls.quiet_of_same ((in_yes x 0 (n - 1) _ ?_)); exact Ix.out) | (go_at_call_of 27 y; refine Calls.quiet_of_same ((in_yes y 0 (n - 1) _ ?_)); exact Iy.out) | (go_at_call_of 27 z; refine Calls.quiet_of_same ((in_yes z 0 (n - 1) _ ?_)); exact Iz.out))
    go_wp2
    go_ret
    exact ⟨rfl, nq, rfl⟩
  · have hr : thr n l = false := by
      simp only [thr, decide_eq_false_iff_not]
      intro hh
      exact hm3 (h.len.symm.trans hh.1)
    have e0 : ((m : Int) == 3) = false := by simp; omega
    rw [hr]
    clear hr hm3 h
    go_enter Tryd.func61, Tryd.ntmps61
    go_wp2
    go_quiet (fail)
    go_wp2
    go_ret
    exact ⟨rfl, nq, rfl⟩
end Go.Proofs.YtjpbmhlojpaieaaDoor
