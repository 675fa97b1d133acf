/- Windings: the maths. -/
import Derived.Test.YtamnacgclhaggabPR
namespace Go.Proofs.Ytamnacgclhaggab
open Go.ChangeShapes Go.WideShapes Go.ChangeAt Go.RowKit

/-- f 0 + .. + f (k - 1). -/
def sumN (f : Nat → Int) : Nat → Int
  | 0 => 0
  | k + 1 => sumN f k + f k
theorem sumN_congr {f g : Nat → Int} : ∀ k, (∀ i, i < k → f i = g i) → sumN f k = sumN g k
  | 0, _ => rfl
  | k + 1, h => by rw [sumN, sumN, sumN_congr k (fun i hi => h i (by omega)), h k (by omega)]
theorem sumN_bd {f : Nat → Int} {a b : Int} : ∀ k, (∀ i, i < k → a ≤ f i ∧ f i ≤ b) → a * k ≤ sumN f k ∧ sumN f k ≤ b * k
  | 0, _ => by simp [sumN]
  | k + 1, h => by
    have h1 := sumN_bd k (fun i hi => h i (by omega))
    have h2 := h k (by omega)
    have e1 : a * ((k + 1 : Nat) : Int) = a * k + a := by rw [Int.natCast_succ, Int.mul_add, Int.mul_one]
    have e2 : b * ((k + 1 : Nat) : Int) = b * k + b := by rw [Int.natCast_succ, Int.mul_add, Int.mul_one]
    rw [sumN, e1, e2]
    omega
theorem sumN_add (f g : Nat → Int) : ∀ k, sumN (fun i => f i + g i) k = sumN f k + sumN g k
  | 0 => rfl
  | k + 1 => by rw [sumN, sumN, sumN, sumN_add f g k]; omega
theorem sumN_mul (c : Int) (f : Nat → Int) : ∀ k, sumN (fun i => c * f i) k = c * sumN f k
  | 0 => by simp [sumN]
  | k + 1 => by rw [sumN, sumN, sumN_mul c f k, Int.mul_add]
theorem sumN_const (c : Int) : ∀ k, sumN (fun _ => c) k = c * k
  | 0 => by simp [sumN]
  | k + 1 => by rw [sumN, sumN_const c k, Int.natCast_succ, Int.mul_add, Int.mul_one]
theorem sumN_tail (f : Nat → Int) : ∀ k, sumN f (k + 1) = f 0 + sumN (fun i => f (i + 1)) k
  | 0 => by simp [sumN]
  | k + 1 => by rw [sumN, sumN_tail f k, sumN]; omega
theorem sumN_rev (f : Nat → Int) : ∀ k, sumN (fun i => f (k - 1 - i)) k = sumN f k
  | 0 => rfl
  | k + 1 => by
    rw [sumN_tail, sumN]
    have e : sumN (fun i => f (k + 1 - 1 - (i + 1))) k = sumN f k := by
      rw [← sumN_rev f k]
      exact sumN_congr k fun i hi => by rw [show k + 1 - 1 - (i + 1) = k - 1 - i by omega]
    rw [e, show k + 1 - 1 - 0 = k by omega]
    omega
/-- Round once, all differences add up to nothing. -/
theorem sumN_round (f : Nat → Int) (n : Nat) (h : 1 ≤ n) : sumN (fun i => f ((i + 1) % n) - f i) n = 0 := by
  obtain ⟨m, rfl⟩ : ∃ m, n = m + 1 := ⟨n - 1, by omega⟩
  have e : ∀ k, k ≤ m → sumN (fun i => f ((i + 1) % (m + 1)) - f i) k = f k - f 0 := by
    intro k
    induction k with
    | zero => intro _; simp [sumN]
    | succ k ih =>
      intro hk
      rw [sumN, ih (by omega), Nat.mod_eq_of_lt (show k + 1 < m + 1 by omega)]
      omega
  rw [sumN, e m (Nat.le_refl _), Nat.mod_self]
  omega

/-- The step along b from the i-th point of a to the next one. -/
def stepN (a b : List Int) (i : Nat) : Int := stepsI b (a.getD i 0) (a.getD ((i + 1) % a.length) 0)
/-- All steps along b. -/
def pathL (a b : List Int) : List Int := (List.range a.length).map (stepN a b)
theorem pathL_length (a b : List Int) : (pathL a b).length = a.length := by simp [pathL]
theorem pathL_get (a b : List Int) (k : Nat) (h : k < a.length) : (pathL a b).getD k 0 = stepN a b k := by simp [pathL, List.getD, h]
theorem pathL_snoc (a b : List Int) (k : Nat) (h : k < a.length) : (pathL a b).take k ++ [stepN a b k] = (pathL a b).take (k + 1) := by
  rw [List.take_succ_eq_append_getElem (by rw [pathL_length]; exact h)]
  simp [pathL]
/-- The winding of a by b. -/
def windL (a b : List Int) : Int := sumN (stepN a b) a.length / (a.length : Int)
theorem windL_sum (a b : List Int) : sumN (fun i => (pathL a b).getD i 0) a.length = sumN (stepN a b) a.length := sumN_congr _ fun i hi => pathL_get a b i hi
theorem stepN_bd (a b : List Int) (hb : 1 ≤ b.length) (i : Nat) : 0 ≤ stepN a b i ∧ stepN a b i ≤ (b.length : Int) - 1 := by
  unfold stepN stepsI
  have h1 := Int.emod_nonneg ((b.idxOf (a.getD ((i + 1) % a.length) 0) : Int) - (b.idxOf (a.getD i 0) : Int)) (show (b.length : Int) ≠ 0 by omega)
  have h2 := Int.emod_lt_of_pos ((b.idxOf (a.getD ((i + 1) % a.length) 0) : Int) - (b.idxOf (a.getD i 0) : Int)) (show (0 : Int) < (b.length : Int) by omega)
  omega
theorem windL_bd (a b : List Int) (ha : 1 ≤ a.length) (e : a.length = b.length) : 0 ≤ windL a b ∧ windL a b < (a.length : Int) := by
  have h := sumN_bd a.length (fun i (_ : i < a.length) => stepN_bd a b (by omega) i)
  rw [← e] at h
  unfold windL
  constructor
  · exact Int.ediv_nonneg (by omega) (by omega)
  · apply Int.ediv_lt_of_lt_mul (by omega)
    have e1 : ((a.length : Int) - 1) * (a.length : Int) = (a.length : Int) * (a.length : Int) - (a.length : Int) := by rw [Int.sub_mul, Int.one_mul]
    rw [e1] at h
    omega

/-- Falls: points whose next one is less. -/
def fallsN (a : List Int) (i : Nat) : Int := if a.getD ((i + 1) % a.length) 0 < a.getD i 0 then 1 else 0
def fallsL (a : List Int) : Int := sumN (fallsN a) a.length
theorem fallsN_bd (a : List Int) (i : Nat) : 0 ≤ fallsN a i ∧ fallsN a i ≤ 1 := by unfold fallsN; split <;> omega

/-- Where a row of the call's own lies, and what its cells hold. -/
theorem ownHead {w : World} {B : Nat} {v : Value} {l : List Int} (h : Own w B v l) (hl : 0 < l.length) :
    ∃ g cap, v = .slice (some ⟨g, 0, none⟩) l.length cap ∧ B ≤ g ∧ g < w.heap.size ∧ l.length ≤ cap ∧ cap ≤ 9223372036854775807 ∧ ∀ k, k < l.length → w.cell? ⟨g, k, none⟩ = some (.int .i64 (l.getD k 0)) := by
  rcases h.2 with ⟨_, h0⟩ | ⟨g, cap, cur, rfl, hg, hh, hnc, hcm, hcs, ht⟩
  · omega
  · refine ⟨g, cap, rfl, hg, (Array.getElem?_eq_some_iff.1 hh).1, hnc, by unfold maxLen at hcm; omega, fun k hk => ?_⟩
    rw [h.cellAt k (by omega), ints_get _ _ hk]
end Go.Proofs.Ytamnacgclhaggab
