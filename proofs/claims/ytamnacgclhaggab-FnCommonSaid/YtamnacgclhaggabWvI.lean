/- Sets of points as the program tells them: the full set, whether a set has a point, the set of a list's points, the least of a list. -/
import Derived.Test.YtamnacgclhaggabWvM
namespace Go.Proofs.Ytamnacgclhaggab
open Go.ChangeShapes Go.WideShapes Go.ChangeAt Go.RowKit

theorem fullSet_any (n : Nat) (w : World) (hn : n ≤ 7) :
    Calls Try.prog 129 #[.int .i64 (n : Int)] w fun e w' => e = .returned (.int .i64 ((2 ^ n - 1 : Nat) : Int)) ∧ w = w' := by
  obtain rfl | rfl | rfl | rfl | rfl | rfl | rfl | rfl : n = 0 ∨ n = 1 ∨ n = 2 ∨ n = 3 ∨ n = 4 ∨ n = 5 ∨ n = 6 ∨ n = 7 := by omega
  all_goals
    go_enter Try.func129, Try.ntmps129
    go_wp2
    go_ret
    exact ⟨rfl, rfl⟩

theorem setHas_any (s : Nat) (x : Int) (w : World) (hs : s < 128) (h0 : 0 ≤ x) (h7 : x < 7) :
    Calls Try.prog 149 #[.int .i64 (s : Int), .int .i64 x] w fun e w' => e = .returned (.bool (hasN s x)) ∧ w = w' := by
  have hb := and_one_bit s x hs h0 h7
  rw [show min x.toNat 64 = x.toNat by omega] at hb
  generalize hasN s x = r at *
  go_enter Try.func149, Try.ntmps149
  go_wp2
  go_ret
  exact ⟨by rw [← hb]; rfl, rfl⟩

/-- The least of a list's numbers. -/
def minL (l : List Int) : Int := l.foldl (fun m x => if x < m then x else m) (l.getD 0 0)
theorem minL_step (l : List Int) (k : Nat) (h1 : 1 ≤ k) (hk : k < l.length) : minL (l.take (k + 1)) = if l.getD k 0 < minL (l.take k) then l.getD k 0 else minL (l.take k) := by
  unfold minL
  have e : (l.take (k + 1)).getD 0 0 = (l.take k).getD 0 0 := by simp [List.getD, show 0 < k by omega]
  rw [e, List.take_succ_eq_append_getElem hk, List.foldl_append]
  simp [List.getD, hk]
theorem minL_one (l : List Int) (h : 0 < l.length) : minL (l.take 1) = l.getD 0 0 := by
  match l, h with
  | x :: l, _ => simp [minL]
theorem minL_le (l : List Int) : ∀ (a : Int), (∀ x ∈ l, l.foldl (fun m x => if x < m then x else m) a ≤ x) ∧ l.foldl (fun m x => if x < m then x else m) a ≤ a ∧ (l.foldl (fun m x => if x < m then x else m) a = a ∨ l.foldl (fun m x => if x < m then x else m) a ∈ l) := by
  induction l with
  | nil => intro a; exact ⟨fun x hx => by simp at hx, by simp, .inl rfl⟩
  | cons y l ih =>
    intro a
    simp only [List.foldl_cons]
    obtain ⟨h1, h2, h3⟩ := ih (if y < a then y else a)
    have h4 : (if y < a then y else a) ≤ a ∧ (if y < a then y else a) ≤ y := by split <;> omega
    refine ⟨fun x hx => ?_, by omega, ?_⟩
    · rcases List.mem_cons.1 hx with rfl | hx
      · omega
      · exact h1 x hx
    · rcases h3 with h3 | h3
      · rw [h3]
        by_cases hy : y < a
        · rw [if_pos hy]; exact .inr (by simp)
        · rw [if_neg hy]; exact .inl rfl
      · exact .inr (List.mem_cons_of_mem _ h3)
theorem minL_head (l : List Int) : (l.getD 0 0 = minL l) ↔ ∀ x ∈ l, l.getD 0 0 ≤ x := by
  obtain ⟨h1, h2, h3⟩ := minL_le l (l.getD 0 0)
  constructor
  · intro e x hx
    rw [e]
    exact h1 x hx
  · intro hh
    unfold minL
    rcases h3 with h3 | h3
    · exact h3.symm
    · have := hh _ h3
      omega

end Go.Proofs.Ytamnacgclhaggab
