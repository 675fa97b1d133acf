/- Sets of points told as numbers, and parts of rings: what they are. Plain lemmas. -/
import Derived.Test.YthpomflpnmddoaaGreatDoorMA
namespace Go.Proofs.YthpomflpnmddoaaGreatDoor
open Go.ChangeShapes Go.WideShapes Go.ChangeAt Go.RowKit

/-- Whether a set has a point. -/
def hasN (s : Nat) (x : Int) : Bool := s.testBit x.toNat
def pickN (s : Nat) (l : List Int) : List Int := l.filter (hasN s)
/-- The least point of a set. -/
def lowN (s : Nat) : Nat := if s.testBit 0 then 0 else if s.testBit 1 then 1 else if s.testBit 2 then 2 else if s.testBit 3 then 3 else if s.testBit 4 then 4 else if s.testBit 5 then 5 else 6
/-- The part of a ring with the points of a set. -/
def partL (l : List Int) (s : Nat) : List Int := pickN s (cutL l (lowN s : Int))

theorem and_small (a b : Nat) (ha : a < 128) (hb : b < 128) : bits .and .i64 (a : Int) (b : Int) = ((a &&& b : Nat) : Int) := by
  have key : ∀ x : Fin 128, ∀ n : Nat, (BitVec.ofInt 64 ((x.val : Nat) : Int)).toNat = x.val := fun x _ => by
    have := x.isLt
    simp only [BitVec.toNat_ofInt]
    omega
  have e1 := key ⟨a, ha⟩ 0
  have e2 := key ⟨b, hb⟩ 0
  simp only at e1 e2
  have hlt : a &&& b < 128 := Nat.and_lt_two_pow (n := 7) a hb
  change IntKind.i64.wrap ((BitVec.ofInt 64 (a : Int) &&& BitVec.ofInt 64 (b : Int)).toNat : Int) = _
  simp only [IntKind.wrap_i64, BitVec.toNat_and, e1, e2]
  omega
theorem xor_small (a b : Nat) (ha : a < 128) (hb : b < 128) : bits .xor .i64 (a : Int) (b : Int) = ((a ^^^ b : Nat) : Int) := by
  have key : ∀ x : Fin 128, ∀ n : Nat, (BitVec.ofInt 64 ((x.val : Nat) : Int)).toNat = x.val := fun x _ => by
    have := x.isLt
    simp only [BitVec.toNat_ofInt]
    omega
  have e1 := key ⟨a, ha⟩ 0
  have e2 := key ⟨b, hb⟩ 0
  simp only at e1 e2
  have hlt : a ^^^ b < 128 := Nat.xor_lt_two_pow (n := 7) ha hb
  change IntKind.i64.wrap ((BitVec.ofInt 64 (a : Int) ^^^ BitVec.ofInt 64 (b : Int)).toNat : Int) = _
  simp only [IntKind.wrap_i64, BitVec.toNat_xor, e1, e2]
  omega
theorem and_one_bit (s : Nat) (x : Int) (hs : s < 128) (h0 : 0 ≤ x) (h7 : x < 7) : (bits .and .i64 (s : Int) (wrap64 (2 ^ min x.toNat 64)) != 0) = hasN s x := by
  obtain ⟨e, hlt⟩ := pow_small x h0 h7
  rw [e, and_small s _ hs hlt]
  have : s &&& 2 ^ x.toNat = if s.testBit x.toNat then 2 ^ x.toNat else 0 := by
    apply Nat.eq_of_testBit_eq
    intro j
    rw [Nat.testBit_and, Nat.testBit_two_pow]
    by_cases hj : x.toNat = j
    · subst hj; cases s.testBit x.toNat <;> simp
    · cases s.testBit x.toNat <;> simp [hj]
  rw [this]
  unfold hasN
  have hp := Nat.two_pow_pos x.toNat
  cases s.testBit x.toNat
  · simp
  · simp only [if_true, bne_iff_ne, ne_eq]
    omega
theorem shr_one (s : Nat) (x : Int) (hs : s < 128) : bits .and .i64 ((s : Int) / 2 ^ x.toNat) 1 = if hasN s x then 1 else 0 := by
  have e : (s : Int) / 2 ^ x.toNat = ((s / 2 ^ x.toNat : Nat) : Int) := by simp
  have hlt : s / 2 ^ x.toNat < 128 := Nat.lt_of_le_of_lt (Nat.div_le_self _ _) hs
  have := and_small (s / 2 ^ x.toNat) 1 hlt (by omega)
  rw [e]
  rw [show ((1 : Nat) : Int) = 1 from rfl] at this
  rw [this]
  unfold hasN
  rw [Nat.testBit_eq_decide_div_mod_eq, Nat.and_one_is_mod]
  have h2 := Nat.mod_two_eq_zero_or_one (s / 2 ^ x.toNat)
  rcases h2 with h2 | h2 <;> simp [h2]
theorem shr_bit (s : Nat) (x : Int) (hs : s < 128) : (bits .and .i64 ((s : Int) / 2 ^ x.toNat) 1 == 1) = hasN s x ∧ (bits .and .i64 ((s : Int) / 2 ^ x.toNat) 1 == 0) = !hasN s x := by
  rw [shr_one s x hs]
  cases hasN s x <;> simp
theorem fits (s n : Nat) (hn : n ≤ 7) (h : s < 2 ^ n) : s < 128 := Nat.lt_of_lt_of_le h (Nat.pow_le_pow_right (by omega) hn : 2 ^ n ≤ 2 ^ 7)

/-- A set's points: those of a list. -/
theorem mask_has (l : List Int) (h : ∀ x ∈ l, 0 ≤ x) (x : Int) (hx : 0 ≤ x) : hasN (maskN l) x = decide (x ∈ l) := by
  have := mask_bit l h x.toNat 0
  simp only [Nat.zero_testBit, Bool.false_or, Int.toNat_of_nonneg hx] at this
  exact this
theorem mask_lt (l : List Int) (h : ∀ x ∈ l, 0 ≤ x ∧ x < 7) : maskN l < 128 := (mask_eq l h 0 (by omega)).2
theorem pick_mask (l : List Int) (h : ∀ x ∈ l, 0 ≤ x) : pickN (maskN l) l = l := by
  unfold pickN
  rw [List.filter_eq_self]
  intro x hx
  rw [mask_has l h x (h x hx)]
  simpa using hx
theorem low_le (s : Nat) : lowN s ≤ 6 := by
  unfold lowN
  repeat' split
  all_goals omega
theorem low_has : ∀ s : Nat, s < 128 → s ≠ 0 → s.testBit (lowN s) = true ∧ ∀ j, j < lowN s → s.testBit j = false := by
  have key : ∀ s : Fin 128, s.val ≠ 0 → s.val.testBit (lowN s.val) = true ∧ ∀ j : Fin 7, j.val < lowN s.val → s.val.testBit j.val = false := by decide +kernel
  intro s hs h0
  have := key ⟨s, hs⟩ h0
  refine ⟨this.1, fun j hj => this.2 ⟨j, by have := low_le s; omega⟩ hj⟩
/-- The least point of a set of n points is one of them. -/
theorem low_lt (s n : Nat) (hn : n ≤ 7) (h : s < 2 ^ n) (h0 : s ≠ 0) : lowN s < n := by
  have := (low_has s (fits s n hn h) h0).1
  by_cases hge : n ≤ lowN s
  · have h2 : s < 2 ^ lowN s := Nat.lt_of_lt_of_le h (Nat.pow_le_pow_right (by omega) hge)
    rw [Nat.testBit_lt_two_pow h2] at this
    cases this
  · omega
theorem part_length (l : List Int) (s : Nat) : (partL l s).length ≤ l.length := by
  have := List.length_filter_le (hasN s) (cutL l (lowN s : Int))
  rw [cutL_length] at this
  exact this
theorem part_mem (l : List Int) (s : Nat) : ∀ x ∈ partL l s, x ∈ cutL l (lowN s : Int) := fun _ hx => (List.mem_filter.1 hx).1

/-- Whether a list is a part of n points. -/
def Prt (n : Int) (p : List Int) : Prop := (3 ≤ n ∧ n ≤ 6) ∧ p ≠ [] ∧ Pts n p ∧ ∀ x ∈ p, p.getD 0 0 ≤ x
instance (n : Int) (p : List Int) : Decidable (Prt n p) := by unfold Prt; infer_instance
def prt (n : Int) (p : List Int) : Bool := decide (Prt n p)
theorem prt_yes {n : Int} {p : List Int} (h : Prt n p) : prt n p = true := by simpa [prt] using h
theorem prt_no {n : Int} {p : List Int} (h : ¬ Prt n p) : prt n p = false := by simpa [prt] using h
theorem Prt.len {n : Int} {p : List Int} (h : Prt n p) : 1 ≤ p.length ∧ (p.length : Int) ≤ n ∧ p.length ≤ 6 := by
  have h0 := h.2.1
  have h1 : 0 < p.length := by cases p <;> simp_all
  have h2 := nodup_le n.toNat p h.2.2.1.2 (fun x hx => by have := h.2.2.1.1 x hx; omega)
  have := h.1
  omega
theorem Prt.bd {n : Int} {p : List Int} (h : Prt n p) : ∀ x ∈ p, 0 ≤ x ∧ x < 7 := fun x hx => by have := h.2.2.1.1 x hx; have := h.1; omega
/-- Whether a ring has a part. -/
def hasL (l p : List Int) : Bool := decide (partL l (maskN p) = p)
end Go.Proofs.YthpomflpnmddoaaGreatDoor
