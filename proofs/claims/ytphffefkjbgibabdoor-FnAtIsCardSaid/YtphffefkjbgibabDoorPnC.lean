/- At how many sets a ring has a pattern, and the first one: the numbers. Plain lemmas. -/
import Derived.Test.YtphffefkjbgibabDoorPnM
namespace Go.Proofs.YtphffefkjbgibabDoor
open Go.ChangeShapes Go.WideShapes Go.ChangeAt Go.RowKit

/-- Among the first k numbers, how many sets at which the ring has the pattern. -/
def cntP (l p : List Int) (k : Nat) : Nat := (List.range k).countP (atN l p)
def mnyN (l p : List Int) : Nat := cntP l p (2 ^ l.length)
theorem cntP_step (l p : List Int) (k : Nat) : cntP l p (k + 1) = cntP l p k + if atN l p k then 1 else 0 := by
  unfold cntP
  rw [List.range_succ, List.countP_append]
  simp [List.countP_cons]
theorem cntP_one (l p : List Int) (hp : 0 < p.length) : cntP l p 1 = 0 := by
  rw [cntP_step, at_zero l p hp]; rfl
theorem cntP_le (l p : List Int) (k : Nat) : cntP l p k ≤ k := by
  have := List.countP_le_length (p := atN l p) (l := List.range k)
  rwa [List.length_range] at this
theorem mny_le {l : List Int} (p : List Int) (h : l.length ≤ 7) : mnyN l p ≤ 128 := by
  have h1 := cntP_le l p (2 ^ l.length)
  have h2 : 2 ^ l.length ≤ 2 ^ 7 := Nat.pow_le_pow_right (by omega) h
  unfold mnyN; omega
theorem sets_len (l p : List Int) : (setsL l p).length = mnyN l p := by
  unfold setsL mnyN cntP
  rw [List.countP_eq_length_filter]
/-- The least set at which the ring has the pattern, 0 if there is none. -/
def firN (l p : List Int) : Nat := (setsL l p).getD 0 0
theorem firN_at {l p : List Int} {k : Nat} (hk : k < 2 ^ l.length) (hpre : ∀ j, j < k → atN l p j = false) (h : atN l p k = true) : firN l p = k ∧ 0 < mnyN l p := by
  have hf : (List.range (2 ^ l.length)).find? (atN l p) = some k := by
    rw [List.find?_range_eq_some]
    exact ⟨h, List.mem_range.2 hk, fun j hj => by rw [hpre j hj]; rfl⟩
  have hh : (setsL l p).head? = some k := by rw [setsL, List.head?_filter, hf]
  have hl : 0 < (setsL l p).length := by
    cases e : setsL l p with
    | nil => rw [e] at hh; cases hh
    | cons a t => simp
  refine ⟨?_, by rw [← sets_len]; exact hl⟩
  unfold firN
  cases e : setsL l p with
  | nil => rw [e] at hh; cases hh
  | cons a t => rw [e] at hh; simp at hh; simp [hh]
theorem firN_none {l p : List Int} (hpre : ∀ j, j < 2 ^ l.length → atN l p j = false) : mnyN l p = 0 := by
  rw [← sets_len, setsL, List.filter_eq_nil_iff.2 (fun x hx => by rw [hpre x (List.mem_range.1 hx)]; simp)]
  rfl
theorem firN_lt {l : List Int} (p : List Int) (h : l.length ≤ 7) : firN l p < 128 := by
  have h2 : 2 ^ l.length ≤ 2 ^ 7 := Nat.pow_le_pow_right (by omega) h
  unfold firN
  cases e : setsL l p with
  | nil => simp
  | cons a t =>
    have : a ∈ setsL l p := by rw [e]; simp
    have := List.mem_range.1 (List.mem_filter.1 this).1
    simp; omega

/-- What the functions of the chapter answer. -/
def pmR (l p : List Int) : Int := if Two8 l p then (mnyN l p : Int) else 0
def pfB (l p : List Int) : Bool := if Two8 l p then decide (0 < mnyN l p) else false
def pfR (l p : List Int) : Int := if pfB l p then (firN l p : Int) else 0
theorem mny_short {l p : List Int} (h : l.length < p.length) : mnyN l p = 0 :=
  firN_none fun j hj => by
    unfold atN
    simp only [decide_eq_false_iff_not]
    intro e
    have h1 := part_length l j
    have h2 : (patL l j).length = (partL l j).length := by rw [patL, rngL, List.length_map]
    rw [e] at h2
    omega
end Go.Proofs.YtphffefkjbgibabDoor
