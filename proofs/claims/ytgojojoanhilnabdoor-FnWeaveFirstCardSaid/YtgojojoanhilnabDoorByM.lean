/- The ring with a number: the lists. -/
import Derived.Test.YtgojojoanhilnabDoorNum
import Derived.Test.YtgojojoanhilnabDoorMA
namespace Go.Proofs.YtgojojoanhilnabDoor
open Go.ChangeShapes Go.WideShapes Go.ChangeAt Go.RowKit

/-- Points taken one by one out of those that are left, by a number. -/
def takeBy : Nat → List Int → Int → List Int
  | 0, _, _ => []
  | m + 1, left, k => left.getD (k / facN m).toNat 0 :: takeBy m (left.eraseIdx (k / facN m).toNat) (k % facN m)

def upFrom (a : Int) (n : Nat) : List Int := (List.range n).map fun i : Nat => a + (i : Int)
@[simp] theorem upFrom_length (a : Int) (n : Nat) : (upFrom a n).length = n := by simp [upFrom]
theorem upFrom_snoc (a : Int) (n : Nat) : upFrom a (n + 1) = upFrom a n ++ [a + (n : Int)] := by simp [upFrom, List.range_succ]
theorem upFrom_cons (a : Int) (n : Nat) : upFrom a (n + 1) = a :: upFrom (a + 1) n := by
  simp [upFrom, List.range_succ_eq_map, Function.comp_def]
  intro i _
  omega
theorem upFrom_get (a : Int) (n k : Nat) (h : k < n) : (upFrom a n).getD k 0 = a + k := by simp [upFrom, List.getD, h]

theorem facN_succ (m : Nat) (h : m ≤ 6) : facN (m + 1) = ((m + 1 : Nat) : Int) * facN m := by
  obtain rfl | rfl | rfl | rfl | rfl | rfl | rfl : m = 0 ∨ m = 1 ∨ m = 2 ∨ m = 3 ∨ m = 4 ∨ m = 5 ∨ m = 6 := by omega
  all_goals decide

/-- The place that a number tells among m + 1 points that are left. -/
theorem place_bd (m : Nat) (k : Int) (h : m ≤ 6) (h0 : 0 ≤ k) (hk : k < facN (m + 1)) : 0 ≤ k / facN m ∧ k / facN m ≤ m ∧ 0 ≤ k % facN m ∧ k % facN m < facN m := by
  have hf := (facN_bd m).1
  rw [facN_succ m h] at hk
  refine ⟨Int.ediv_nonneg h0 (by omega), ?_, Int.emod_nonneg _ (by omega), Int.emod_lt_of_pos _ (by omega)⟩
  have := Int.ediv_lt_of_lt_mul (by omega : 0 < facN m) hk
  omega

theorem takeBy_length (m : Nat) (left : List Int) (k : Int) : (takeBy m left k).length = m := by
  induction m generalizing left k with
  | zero => rfl
  | succ m ih => simp [takeBy, ih]
theorem takeBy_mem : ∀ (m : Nat) (left : List Int) (k : Int), m ≤ 7 → left.length = m → 0 ≤ k → k < facN m → ∀ x ∈ takeBy m left k, x ∈ left
  | 0, _, _, _, _, _, _, x, hx => by simp [takeBy] at hx
  | m + 1, left, k, hm, hl, h0, hk, x, hx => by
    obtain ⟨h1, h2, h3, h4⟩ := place_bd m k (by omega) h0 hk
    rcases List.mem_cons.1 hx with rfl | hx
    · exact getD_mem left _ (by omega)
    · exact List.mem_of_mem_eraseIdx (takeBy_mem m _ _ (by omega) (by rw [List.length_eraseIdx]; rw [if_pos (by omega)]; omega) h3 h4 x hx)

/-- The ring of n points with the number k. -/
def byL (n : Nat) (k : Int) : List Int := takeBy n (upFrom 0 n) k
theorem byL_length (n : Nat) (k : Int) : (byL n k).length = n := takeBy_length n _ _
theorem byL_eq (n : Nat) (k : Int) (h1 : 1 ≤ n) (h7 : n ≤ 7) (h0 : 0 ≤ k) (hk : k < facN (n - 1)) : byL n k = 0 :: takeBy (n - 1) (upFrom 1 (n - 1)) k := by
  obtain ⟨m, rfl⟩ : ∃ m, n = m + 1 := ⟨n - 1, by omega⟩
  simp only [Nat.add_sub_cancel] at hk ⊢
  have hd : k / facN m = 0 := Int.ediv_eq_zero_of_lt h0 hk
  have hm : k % facN m = k := Int.emod_eq_of_lt h0 hk
  unfold byL
  rw [takeBy, hd, hm, upFrom_cons]
  rfl
theorem byL_pos (n : Nat) (k : Int) (h7 : n ≤ 7) (h0 : 0 ≤ k) (hk : k < facN n) : ∀ x ∈ byL n k, 0 ≤ x := fun x hx => by
  have := takeBy_mem n _ k h7 (by simp) h0 hk x hx
  obtain ⟨i, _, rfl⟩ := List.mem_map.1 this
  omega

/-- A number of points, and a number that there is. -/
def byB (n k : Int) : Bool := decide (3 ≤ n ∧ n ≤ 7 ∧ 0 ≤ k ∧ k < facN (n.toNat - 1))
def byR (n k : Int) : List Int := if byB n k then byL n.toNat k else []
theorem byR_length (n k : Int) : (byR n k).length ≤ 7 := by
  unfold byR
  split
  · rename_i h
    simp only [byB, decide_eq_true_eq] at h
    rw [byL_length]; omega
  · simp
end Go.Proofs.YtgojojoanhilnabDoor
