/- Points of a ring: the program's look, the model's look. -/
import Derived.Test.YthfbllgfcidhkaaIn
import Derived.Test.YthfbllgfcidhkaaList
namespace Go.Proofs.Ythfbllgfcidhkaa
open Go.ChangeShapes Go.WideShapes Go.ChangeAt Go.RowKit

theorem has_any (l : List Int) (x : Int) (w : World) (hl : l.length ≤ 7) (hp : ∀ x ∈ l, 0 ≤ x) :
    Calls Try.prog 65 #[agp l, .int .i64 x] w fun e w' => e = .returned (.bool (decide (0 ≤ x ∧ x < l.length))) ∧ Below w.heap.size w w' := by
  obtain ⟨a0, a1, a2, a3, a4, a5, a6, hP⟩ := seven (padR_length l hl)
  have HS := fun W => Lib.hid (size_any l W hl hp)
  unfold agp at HS ⊢
  rw [hP] at HS ⊢
  simp only [ints, List.map_cons, List.map_nil] at HS ⊢
  have HSS := Lib.hid HS
  clear hP hp HS hl
  generalize l.length = n at *
  have hb1 := Lib.hid ((Below.refl w.heap.size w).alloc (Nat.le_refl _) (.cells #[.int .i64 a0, .int .i64 a1, .int .i64 a2, .int .i64 a3, .int .i64 a4, .int .i64 a5, .int .i64 a6] 59))
  have hb2 := Lib.hid (hb1.out.alloc (by simp) (.cells #[.int .i64 a0, .int .i64 a1, .int .i64 a2, .int .i64 a3, .int .i64 a4, .int .i64 a5, .int .i64 a6] 59))
  by_cases h0 : 0 ≤ x
  · by_cases h1 : x < (n : Int)
    all_goals
      go_enter Try.func65, Try.ntmps65
      go_wp2_with (go_at_call 93; refine ((HSS.out _).out).mono ?_; rintro e w' ⟨rfl, rfl⟩)
      go_ret
      exact ⟨by simp_all, hb2.out⟩
  · have hd : decide (0 ≤ x ∧ x < (n : Int)) = false := by simp; omega
    rw [hd]
    clear hd
    go_enter Try.func65, Try.ntmps65
    go_wp2_with fail
    go_ret
    exact ⟨rfl, hb1.out⟩

/-- A ring and a point of it. -/
def hasB (l : List Int) (x : Int) : Bool := ringB l && decide (0 ≤ x ∧ x < l.length)

theorem hasB_yes {l : List Int} {x : Int} (h : hasB l x = true) : Ring l ∧ 0 ≤ x ∧ x < l.length ∧ x ∈ l := by
  simp only [hasB, ringB, Bool.and_eq_true, decide_eq_true_eq] at h
  exact ⟨h.1, h.2.1, h.2.2, h.1.1.has h.2.1 h.2.2⟩
end Go.Proofs.Ythfbllgfcidhkaa
