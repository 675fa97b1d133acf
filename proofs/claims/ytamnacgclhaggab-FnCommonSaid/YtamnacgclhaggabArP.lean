/- A ring has an arc; rows at their block's head. -/
import Derived.Test.YtamnacgclhaggabArA
namespace Go.Proofs.Ytamnacgclhaggab
open Go.ChangeShapes Go.WideShapes Go.ChangeAt Go.RowKit

/-- A ring has an arc: its first point. -/
theorem bitsL_zero (l : List Int) (h : ∀ x ∈ l, 1 ≤ x) : bitsL (hasN 1) l = 0 := by
  induction l with
  | nil => rfl
  | cons x l ih =>
    have hx := h x (by simp)
    have e : hasN 1 x = false := by
      unfold hasN
      obtain ⟨k, rfl⟩ : ∃ k : Nat, x = ((k + 1 : Nat) : Int) := ⟨x.toNat - 1, by omega⟩
      rw [Int.toNat_natCast, Nat.testBit_succ]
      simp
    rw [bitsL, e, ih fun y hy => h y (by simp [hy])]
    rfl
theorem isA_one {l : List Int} (hr : Ring l) : isA l 1 = true := by
  match l, hr with
  | [], hr => have := hr.1.1; simp at this
  | x :: t, hr =>
    have hx : x = 0 := by simpa [List.getD] using hr.2
    subst hx
    have ht : ∀ y ∈ t, 1 ≤ y := fun y hy => by
      have h1 := hr.1.2.2.1 y (by simp [hy])
      have h2 := (List.nodup_cons.1 hr.1.2.2.2).1
      have : y ≠ 0 := fun e => h2 (by rw [← e]; exact hy)
      omega
    have hb : bitsL (hasN 1) ((0 : Int) :: t) = 1 := by
      rw [bitsL, bitsL_zero t ht]
      rfl
    have hn := hr.1.1
    have hn7 := hr.1.2.1
    rw [isA, decide_eq_true_eq, runN, runP, List.length_map, filter_range_congr fun i hi => (begs_bits (hasN 1) _ i hi).1, hb]
    generalize ((0 : Int) :: t).length = n at *
    obtain rfl | rfl | rfl | rfl | rfl : n = 3 ∨ n = 4 ∨ n = 5 ∨ n = 6 ∨ n = 7 := by omega
    all_goals decide
theorem allA_pos {l : List Int} (hr : Ring l) : 1 ≤ (allA l).length := by
  have hn := hr.1.1
  have h8 : 2 ^ 3 ≤ 2 ^ l.length := Nat.pow_le_pow_right (by omega) hn
  have : (1 : Int) ∈ allA l := by
    simp only [allA, arcsTo, List.mem_map, List.mem_filter, List.mem_range]
    exact ⟨1, ⟨by omega, isA_one hr⟩, rfl⟩
  exact List.length_pos_of_mem this

theorem own_head7 {w : World} {B : Nat} {v : Value} {l : List Int} (h : Own w B v l) (hl : 0 < l.length) :
    ∃ g cap, v = .slice (some ⟨g, 0, none⟩) l.length cap ∧ l.length ≤ cap ∧ ∀ k, k < l.length → w.cell? ⟨g, k, none⟩ = some (.int .i64 (l.getD k 0)) := by
  rcases h.2 with ⟨_, h0⟩ | ⟨g, cap, cur, rfl, hg, hh, hnc, hcm, hcs, ht⟩
  · omega
  · refine ⟨g, cap, rfl, hnc, fun k hk => ?_⟩
    rw [h.cellAt k (by omega), ints_get _ _ hk]
theorem own_block7 {w : World} {B g n c : Nat} {l : List Int} (h : Own w B (.slice (some ⟨g, 0, none⟩) n c) l) : B ≤ g ∧ g < w.heap.size := World.ownsRow.lt h g rfl
end Go.Proofs.Ytamnacgclhaggab
