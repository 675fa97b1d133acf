/- Arcs of what a set leaves, and of a ring gone round the other way. Plain lemmas. -/
import Derived.Test.YtamnacgclhaggabArI
import Derived.Test.YtamnacgclhaggabPR
namespace Go.Proofs.Ytamnacgclhaggab
open Go.ChangeShapes Go.WideShapes Go.ChangeAt Go.RowKit

def cntB (n s : Nat) : Nat := ((List.range n).filter (begB n s)).length
theorem runN_bits (p : Int → Bool) (l : List Int) : runN p l = cntB l.length (bitsL p l) := by
  rw [runN, runP, List.length_map, cntB, filter_range_congr fun i hi => (begs_bits p l i hi).1]
theorem comp_key : ∀ n : Fin 8, ∀ s : Fin 128, s.val < 2 ^ n.val → cntB n.val (2 ^ n.val - 1 - s.val) = cntB n.val s.val ∧ 2 * cntB n.val s.val ≤ n.val := by decide +kernel
theorem comp_cnt (n s : Nat) (h7 : n ≤ 7) (hs : s < 2 ^ n) : cntB n (2 ^ n - 1 - s) = cntB n s ∧ 2 * cntB n s ≤ n :=
  comp_key ⟨n, by omega⟩ ⟨s, Nat.lt_of_lt_of_le hs (Nat.pow_le_pow_right (by omega) h7 : 2 ^ n ≤ 2 ^ 7)⟩ hs
theorem bits_comp (p q : Int → Bool) : ∀ l : List Int, (∀ x ∈ l, q x = !p x) → bitsL q l = 2 ^ l.length - 1 - bitsL p l
  | [], _ => rfl
  | x :: l, h => by
    have ih := bits_comp p q l fun y hy => h y (by simp [hy])
    have hx := h x (by simp)
    have hlt := bitsL_lt p l
    have hlt2 := bitsL_lt p (x :: l)
    simp only [bitsL, List.length_cons, Nat.pow_succ, hx, ih] at hlt2 ⊢
    cases p x <;> simp_all <;> omega
theorem has_comp (n s : Nat) (hs : s < 2 ^ n) (x : Int) (h0 : 0 ≤ x) (hx : x < n) : hasN (2 ^ n - 1 - s) x = !hasN s x := by
  unfold hasN
  rw [show 2 ^ n - 1 - s = 2 ^ n - (s + 1) by omega, Nat.testBit_two_pow_sub_succ hs]
  have : x.toNat < n := by omega
  simp [this]
/-- What a set leaves comes apart as often. -/
theorem run_comp {l : List Int} (hr : Ring l) {s : Nat} (hs : s < 2 ^ l.length) : runN (hasN (2 ^ l.length - 1 - s)) l = runN (hasN s) l ∧ 2 * runN (hasN s) l ≤ l.length := by
  have h7 := hr.1.2.1
  rw [runN_bits, runN_bits, bits_comp (hasN s) _ l fun x hx => has_comp l.length s hs x (hr.1.2.2.1 x hx).1 (hr.1.2.2.1 x hx).2]
  exact comp_cnt _ _ h7 (bitsL_lt _ _)
theorem set_comp {l : List Int} {s : Nat} (h : SetL l (s : Int)) : s < 2 ^ l.length ∧ SetL l ((2 ^ l.length - 1 - s : Nat) : Int) ∧ ((2 ^ l.length - 1 - s : Nat) : Int) = ((2 ^ l.length : Nat) : Int) - 1 - (s : Int) := by
  obtain ⟨k, e, hk, _⟩ := h.nat
  have : k = s := by omega
  subst this
  have hp := Nat.pos_of_ne_zero (show 2 ^ l.length ≠ 0 by simp)
  have e2 : ((2 ^ l.length : Nat) : Int) = (2 : Int) ^ l.length := by simp
  refine ⟨hk, ⟨h.1, by omega, by omega⟩, by omega⟩

/-- The places of a ring gone round the other way. -/
def backS (n s : Nat) : Nat := (List.range n).foldr (fun i t => (if s.testBit ((n - i) % n) then 2 ^ i else 0) + t) 0
theorem back_key : ∀ n : Fin 8, ∀ s : Fin 128, s.val < 2 ^ n.val → cntB n.val (backS n.val s.val) = cntB n.val s.val ∧ backS n.val s.val < 2 ^ n.val := by decide +kernel
theorem backS_bit_key : ∀ n : Fin 8, ∀ s : Fin 128, s.val < 2 ^ n.val → ∀ i : Fin 7, i.val < n.val → (backS n.val s.val).testBit i.val = s.val.testBit ((n.val - i.val) % n.val) := by decide +kernel
theorem run_back {l : List Int} (h7 : l.length ≤ 7) (p : Int → Bool) : runN p (backL l) = runN p l := by
  have hlt := bitsL_lt p l
  have h128 : bitsL p l < 128 := Nat.lt_of_lt_of_le hlt (Nat.pow_le_pow_right (by omega) h7 : 2 ^ l.length ≤ 2 ^ 7)
  obtain ⟨k1, k2⟩ := back_key ⟨l.length, by omega⟩ ⟨bitsL p l, h128⟩ hlt
  have e : bitsL p (backL l) = backS l.length (bitsL p l) := by
    apply Nat.eq_of_testBit_eq
    intro i
    rcases Nat.lt_or_ge i l.length with hi | hi
    · rw [bitsL_bit p _ i (by rw [backL_length]; exact hi), backL_get l i hi, backS_bit_key ⟨l.length, by omega⟩ ⟨bitsL p l, h128⟩ hlt ⟨i, by omega⟩ hi]
      exact (bitsL_bit p l _ (Nat.mod_lt _ (by omega))).symm
    · have h1 := bitsL_lt p (backL l)
      rw [backL_length] at h1
      rw [Nat.testBit_lt_two_pow (Nat.lt_of_lt_of_le h1 (Nat.pow_le_pow_right (by omega) hi)), Nat.testBit_lt_two_pow (Nat.lt_of_lt_of_le k2 (Nat.pow_le_pow_right (by omega) hi))]
  rw [runN_bits, runN_bits, backL_length, e]
  exact k1
end Go.Proofs.Ytamnacgclhaggab
