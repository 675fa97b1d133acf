/- All arcs of a ring: as many as ordered pairs of points, in ascending order. -/
import Derived.Test.YtamnacgclhaggabArP
import Derived.Test.YtamnacgclhaggabArT
import Derived.Test.YtamnacgclhaggabArB
namespace Go.Proofs.Ytamnacgclhaggab
open Go.ChangeShapes Go.WideShapes Go.ChangeAt Go.RowKit

theorem idxAtQ {l : List Int} (hn : l.Nodup) {i : Nat} (hi : i < l.length) : l.idxOf (l.getD i 0) = i := by
  have e : l.getD i 0 = l[i] := by simp [List.getD, hi]
  rw [e]
  exact hn.idxOf_getElem i hi
/-- The set of the points at the places that a number's bits tell. -/
def setAt (l : List Int) (t : Nat) : Nat := maskN (((List.range l.length).filter fun i => t.testBit i).map fun i => l.getD i 0)
theorem setAt_bits {l : List Int} (hr : Ring l) {t : Nat} (ht : t < 2 ^ l.length) : setAt l t < 2 ^ l.length ∧ bitsL (hasN (setAt l t)) l = t := by
  have hmem : ∀ x ∈ ((List.range l.length).filter fun i => t.testBit i).map (fun i => l.getD i 0), x ∈ l := fun x hx => by
    simp only [List.mem_map, List.mem_filter, List.mem_range] at hx
    obtain ⟨i, ⟨hi, _⟩, rfl⟩ := hx
    exact getD_mem l i hi
  have hpos : ∀ x ∈ ((List.range l.length).filter fun i => t.testBit i).map (fun i => l.getD i 0), 0 ≤ x := fun x hx => (hr.1.2.2.1 x (hmem x hx)).1
  have hbit : ∀ i, i < l.length → hasN (setAt l t) (l.getD i 0) = t.testBit i := fun i hi => by
    have h0 := (hr.1.2.2.1 _ (getD_mem l i hi)).1
    rw [setAt, mask_has _ hpos _ h0, Bool.eq_iff_iff, decide_eq_true_iff]
    simp only [List.mem_map, List.mem_filter, List.mem_range]
    constructor
    · rintro ⟨j, ⟨hj, hb⟩, e⟩
      have : j = i := by rw [← idxAtQ hr.1.2.2.2 hj, e, idxAtQ hr.1.2.2.2 hi]
      rw [← this]; exact hb
    · intro hb
      exact ⟨i, ⟨hi, hb⟩, rfl⟩
  refine ⟨Nat.lt_pow_two_of_testBit _ fun p hp => ?_, Nat.eq_of_testBit_eq fun i => ?_⟩
  · have h1 : (setAt l t).testBit p = decide ((p : Int) ∈ ((List.range l.length).filter fun i => t.testBit i).map (fun i => l.getD i 0)) := by
      have := mask_has _ hpos (p : Int) (by omega)
      rwa [hasN, Int.toNat_natCast] at this
    rw [h1, decide_eq_false_iff_not]
    intro hm
    have := hr.1.2.2.1 _ (hmem _ hm)
    omega
  · rcases Nat.lt_or_ge i l.length with hi | hi
    · rw [bitsL_bit _ l i hi, hbit i hi]
    · rw [Nat.testBit_lt_two_pow (Nat.lt_of_lt_of_le (bitsL_lt _ l) (Nat.pow_le_pow_right (by omega) hi)), Nat.testBit_lt_two_pow (Nat.lt_of_lt_of_le ht (Nat.pow_le_pow_right (by omega) hi))]
theorem bits_inj {l : List Int} (hr : Ring l) {a b : Nat} (ha : a < 2 ^ l.length) (hb : b < 2 ^ l.length) (e : bitsL (hasN a) l = bitsL (hasN b) l) : a = b := by
  apply Nat.eq_of_testBit_eq
  intro p
  rcases Nat.lt_or_ge p l.length with hp | hp
  · have hm : (p : Int) ∈ l := hr.1.has (by omega) (by omega)
    obtain ⟨i, hi, hie⟩ := List.getElem_of_mem hm
    have hie' : l.getD i 0 = (p : Int) := by rw [List.getD, List.getElem?_eq_getElem hi, Option.getD_some, hie]
    have h1 := bitsL_bit (hasN a) l i hi
    have h2 := bitsL_bit (hasN b) l i hi
    rw [hie', hasN, Int.toNat_natCast] at h1 h2
    rw [← h1, ← h2, e]
  · rw [Nat.testBit_lt_two_pow (Nat.lt_of_lt_of_le ha (Nat.pow_le_pow_right (by omega) hp)), Nat.testBit_lt_two_pow (Nat.lt_of_lt_of_le hb (Nat.pow_le_pow_right (by omega) hp))]
theorem count_key : ∀ n : Fin 8, 3 ≤ n.val → ((List.range (2 ^ n.val)).filter (fun t => decide (cntB n.val t = 1))).length = n.val * (n.val - 1) ∧ cntB n.val (2 ^ n.val - 1) = 0 := by decide +kernel
theorem bits_full {l : List Int} (hr : Ring l) : bitsL (hasN (2 ^ l.length - 1)) l = 2 ^ l.length - 1 := by
  have h0 : bitsL (hasN 0) l = 0 := by
    have : ∀ m : List Int, bitsL (hasN 0) m = 0 := fun m => by
      induction m with
      | nil => rfl
      | cons x m ih => rw [bitsL, ih]; simp [hasN]
    exact this l
  have h1 := bits_comp (hasN 0) (hasN (2 ^ l.length - 1)) l (fun x hx => by
    have := has_comp l.length 0 (Nat.pos_of_ne_zero (by simp)) x (hr.1.2.2.1 x hx).1 (hr.1.2.2.1 x hx).2
    rwa [Nat.sub_zero] at this)
  rw [h1, h0, Nat.sub_zero]
theorem all_count {l : List Int} (hr : Ring l) : (allA l).length = l.length * (l.length - 1) := by
  have h7 := hr.1.2.1
  have hN := Nat.pos_of_ne_zero (show 2 ^ l.length ≠ 0 by simp)
  obtain ⟨k1, k2⟩ := count_key ⟨l.length, by omega⟩ hr.1.1
  have hq : ∀ s, isA l s = decide (cntB l.length (bitsL (hasN s) l) = 1) := fun s => by rw [isA, runN_bits]
  have hfull : isA l (2 ^ l.length - 1) = false := by
    rw [hq, bits_full hr]
    simp only at k2
    rw [k2]; rfl
  have e1 : (allA l).length = ((List.range (2 ^ l.length)).filter (isA l)).length := by
    rw [allA, arcsTo, List.length_map]
    obtain ⟨m, hm⟩ : ∃ m, 2 ^ l.length = m + 1 := ⟨2 ^ l.length - 1, by omega⟩
    rw [hm, Nat.add_sub_cancel] at hfull ⊢
    rw [List.range_succ, List.filter_append]
    simp [hfull]
  have hnd : ((List.range (2 ^ l.length)).map fun s => bitsL (hasN s) l).Nodup := by
    unfold List.Nodup
    rw [List.pairwise_map]
    refine List.Pairwise.imp_of_mem (R := (· < ·)) ?_ List.pairwise_lt_range
    intro a b ha hb hab e
    have := bits_inj hr (List.mem_range.1 ha) (List.mem_range.1 hb) e
    omega
  have hperm : List.Perm ((List.range (2 ^ l.length)).map fun s => bitsL (hasN s) l) (List.range (2 ^ l.length)) := by
    refine (List.perm_ext_iff_of_nodup hnd List.nodup_range).2 fun t => ?_
    simp only [List.mem_map, List.mem_range]
    constructor
    · rintro ⟨s, _, rfl⟩
      exact bitsL_lt _ l
    · intro ht
      obtain ⟨h1, h2⟩ := setAt_bits hr ht
      exact ⟨_, h1, h2⟩
  have e2 := (hperm.filter fun t => decide (cntB l.length t = 1)).length_eq
  rw [List.filter_map, List.length_map] at e2
  have e3 : ((List.range (2 ^ l.length)).filter (isA l)) = (List.range (2 ^ l.length)).filter ((fun t => decide (cntB l.length t = 1)) ∘ fun s => bitsL (hasN s) l) := List.filter_congr fun s _ => hq s
  rw [e1, e3, e2]
  exact k1
theorem all_up {l : List Int} {k : Nat} (hk : k + 1 < (allA l).length) : (allA l).getD k 0 < (allA l).getD (k + 1) 0 := by
  have hp : (allA l).Pairwise (· < ·) := by
    unfold allA arcsTo
    rw [List.pairwise_map]
    exact (List.Pairwise.filter _ List.pairwise_lt_range).imp fun h => by omega
  have := (List.pairwise_iff_getElem.1 hp) k (k + 1) (by omega) hk (by omega)
  simpa [List.getD, hk, show k < (allA l).length by omega] using this
theorem all_arc {l : List Int} (hr : Ring l) {x : Int} (hx : x ∈ allA l) : arcB l x = true ∧ 0 ≤ x ∧ x < 128 := by
  simp only [allA, arcsTo, List.mem_map, List.mem_filter, List.mem_range] at hx
  obtain ⟨s, ⟨hs, ha⟩, rfl⟩ := hx
  have hp := pow_bd l.length hr.1.2.1
  have e2 : ((2 ^ l.length : Nat) : Int) = (2 : Int) ^ l.length := by simp
  have hset : SetL l (s : Int) := ⟨hr, by omega, by omega⟩
  refine ⟨?_, by omega, by omega⟩
  rw [arcB, set_yes hset, Int.toNat_natCast, Bool.true_and]
  exact ha
end Go.Proofs.Ytamnacgclhaggab
