/- Threes: what they are; the model's check of one. -/
import Derived.Test.YtoifdfbhhdedbaaDoorFill
namespace Go.Proofs.YtoifdfbhhdedbaaDoor
open Go.ChangeShapes Go.WideShapes Go.ChangeAt Go.RowKit

/-- Three different points of n. -/
def Thr (n : Int) (l : List Int) : Prop := l.length = 3 ∧ (∀ x ∈ l, 0 ≤ x ∧ x < n) ∧ l.Nodup
instance (n : Int) (l : List Int) : Decidable (Thr n l) := by unfold Thr; infer_instance
def thr (n : Int) (l : List Int) : Bool := decide (Thr n l)
theorem thr3 (n x y z : Int) : Thr n [x, y, z] ↔ (0 ≤ x ∧ x ≤ n - 1) ∧ (0 ≤ y ∧ y ≤ n - 1) ∧ (0 ≤ z ∧ z ≤ n - 1) ∧ x ≠ y ∧ x ≠ z ∧ y ≠ z := by
  simp only [Thr, List.mem_cons, List.not_mem_nil, or_false, List.nodup_cons, List.nodup_nil, and_true, forall_eq_or_imp, forall_eq, List.length_cons, List.length_nil]
  constructor
  · rintro ⟨_, ⟨hx, hy, hz⟩, h1, h2, _⟩
    refine ⟨by omega, by omega, by omega, ?_, ?_, ?_⟩ <;> intro e <;> simp_all
  · rintro ⟨hx, hy, hz, h1, h2, h3⟩
    refine ⟨trivial, ⟨by omega, by omega, by omega⟩, ?_, ?_, ?_⟩ <;> simp_all
theorem of_three {l : List Int} (h : l.length = 3) : ∃ x y z, l = [x, y, z] := by
  match l, h with
  | [x, y, z], _ => exact ⟨x, y, z, rfl⟩

section
variable {w : World} {H b o : Nat} {x y z : Int}
theorem rd3 {A : Option Addr} (h : Rd w H A 3 [x, y, z]) : ∃ b o, A = some ⟨b, o, none⟩ ∧ b < H ∧ w.cell? ⟨b, o, none⟩ = some (.int .i64 x) ∧ w.cell? ⟨b, o + 1, none⟩ = some (.int .i64 y) ∧ w.cell? ⟨b, o + 2, none⟩ = some (.int .i64 z) := by
  obtain ⟨b, o, e, hb, hc⟩ := h.at_ (by omega)
  exact ⟨b, o, e, hb, hc 0 (by omega), hc 1 (by omega), hc 2 (by omega)⟩
end

theorem in_yes (x a b : Int) (w : World) (h : (decide (a ≤ x) && decide (x ≤ b)) = true) : Calls Tryd.prog 64 #[.int .i64 x, .int .i64 a, .int .i64 b] w fun e w' => e = .returned (.bool true) ∧ w' = w :=
  (in_any x a b w).mono (by rintro e w' ⟨rfl, rfl⟩; exact ⟨by rw [h], rfl⟩)
theorem in_no (x a b : Int) (w : World) (h : (decide (a ≤ x) && decide (x ≤ b)) = false) : Calls Tryd.prog 64 #[.int .i64 x, .int .i64 a, .int .i64 b] w fun e w' => e = .returned (.bool false) ∧ w' = w :=
  (in_any x a b w).mono (by rintro e w' ⟨rfl, rfl⟩; exact ⟨by rw [h], rfl⟩)

end Go.Proofs.YtoifdfbhhdedbaaDoor
