/- How many chords of a ring cross. -/
import Derived.Test.YtamnacgclhaggaaPqM
import Derived.Test.YtamnacgclhaggaaFew
import Derived.Test.YtamnacgclhaggaaFewT
import Derived.Test.YtamnacgclhaggaaPcT
import Derived.Test.YtamnacgclhaggaaRank
import Derived.Test.YtamnacgclhaggaaLawM
import Derived.Test.YtamnacgclhaggaaRwS
namespace Go.Proofs.Ytamnacgclhaggaa
open Go.ChangeShapes Go.WideShapes Go.ChangeAt Go.RowKit

theorem cout_tri (f : Nat → Nat → Bool) : ∀ k, 2 * cout f k ≤ k * (k - 1)
  | 0 => by simp [cout]
  | k + 1 => by
    have ih := cout_tri f k
    have h := cin_le f k k
    simp only [cout]
    rcases k with _ | k
    · simp [cout] at *; omega
    · have e : (k + 1 + 1) * (k + 1 + 1 - 1) = (k + 1) * (k + 1 - 1) + 2 * (k + 1) := by
        simp only [Nat.add_sub_cancel]
        rw [Nat.add_mul (k + 1) 1, Nat.mul_add (k + 1) k 1]
        omega
      omega
theorem cin_congr {f g : Nat → Nat → Bool} {i : Nat} : ∀ k, (∀ j, j < k → f i j = g i j) → cin f i k = cin g i k
  | 0, _ => rfl
  | k + 1, h => by simp only [cin]; rw [cin_congr k (fun j hj => h j (by omega)), h k (by omega)]
theorem cout_congr {f g : Nat → Nat → Bool} : ∀ k, (∀ i j, i < k → j < i → f i j = g i j) → cout f k = cout g k
  | 0, _ => rfl
  | k + 1, h => by simp only [cout]; rw [cout_congr k (fun i j hi hj => h i j (by omega) hj), cin_congr k (fun j hj => h k j (by omega) hj)]
theorem chk_back {l : List Int} (hr : Ring l) (e o : List Int) : chkB (backL l) e o = chkB l e o := by
  unfold chkB
  rw [backL_length]
  cases h : four l.length (e ++ o) with
  | false => rfl
  | true =>
    have h4 : Four (l.length : Int) (e ++ o) := by simpa [four] using h
    obtain ⟨x, y, z, u, ee, f⟩ := four_f4 hr.1 h4
    rw [ee, Bool.true_and, Bool.true_and]
    exact part_back hr.1.2.2.2 f
theorem ch_back {l : List Int} (hr : Ring l) (L : List (List Int)) : chN (backL l) L = chN l L :=
  cout_congr _ fun _ _ _ _ => chk_back hr _ _
theorem bsf_least (n : Nat) (L : List (List Int)) : ∀ k j, j < k → 0 ≤ (bsf n L k).2 ∧ (bsf n L k).2 ≤ (chN (byL n (j : Int)) L : Int)
  | 0, j, h => absurd h (by omega)
  | k + 1, j, h => by
    rcases Nat.lt_or_ge j k with hj | hj
    · obtain ⟨h0, h1⟩ := bsf_least n L k j hj
      rw [bsf]
      split
      · rename_i hc
        simp only
        omega
      · exact ⟨h0, h1⟩
    · obtain rfl : j = k := by omega
      rw [bsf]
      split
      · simp only; omega
      · rename_i hc
        omega
theorem few_least {n : Nat} {L : List (List Int)} {l : List Int} (hr : Ring l) (hl : l.length = n) (h6 : n ≤ 6) : fewV n L ≤ (chN l L : Int) := by
  obtain ⟨k0, k1, k2⟩ := ring_num hr
  rw [hl] at k0 k1 k2
  have h3 := hr.1.1
  have hf := (facM_eq7 n (by omega) (by omega)).1
  have := (bsf_least n L (facM n) (numP l n).toNat (by omega)).2
  rw [show (((numP l n).toNat : Nat) : Int) = numP l n by omega, k2] at this
  exact this
end Go.Proofs.Ytamnacgclhaggaa
