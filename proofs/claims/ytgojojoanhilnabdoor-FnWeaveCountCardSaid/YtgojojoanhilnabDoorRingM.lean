/- The maths of rings: the other way round, cut at a point, turned. -/
import Derived.Test.YtgojojoanhilnabDoorBackT
import Derived.Test.YtgojojoanhilnabDoorStepsT
import Derived.Test.YtgojojoanhilnabDoorSwM
import Derived.Test.YtgojojoanhilnabDoorFrom
import Derived.Test.YtgojojoanhilnabDoorOf
namespace Go.Proofs.YtgojojoanhilnabDoor
open Go.ChangeShapes Go.WideShapes Go.ChangeAt Go.RowKit

theorem idxAt {l : List Int} (hn : l.Nodup) {i : Nat} (hi : i < l.length) : l.idxOf (l.getD i 0) = i := by
  have e : l.getD i 0 = l[i] := by simp [List.getD, hi]
  rw [e]
  exact hn.idxOf_getElem i hi
/-- The steps the other way. -/
theorem steps_back {l : List Int} (_ : Tell l) {x y : Int} (hx : x ∈ l) (hy : y ∈ l) (hne : l.idxOf x ≠ l.idxOf y) : stepsI l y x = (l.length : Int) - stepsI l x y := by
  have h1 := List.idxOf_lt_length_of_mem hx
  have h2 := List.idxOf_lt_length_of_mem hy
  unfold stepsI
  generalize l.idxOf x = p at *
  generalize l.idxOf y = q at *
  rcases Nat.lt_or_ge p q with hpq | hpq
  · rw [Int.emod_eq_of_lt (show (0 : Int) ≤ (q : Int) - p by omega) (by omega), ← Int.add_emod_right, Int.emod_eq_of_lt (by omega) (by omega)]; omega
  · rw [Int.emod_eq_of_lt (show (0 : Int) ≤ (p : Int) - q by omega) (by omega), ← Int.add_emod_right ((q : Int) - p), Int.emod_eq_of_lt (by omega) (by omega)]; omega
theorem backL_nodup' {l : List Int} (ht : Tell l) : (backL l).Nodup ∧ ∀ x, x ∈ l → (backL l).idxOf x = (l.length - l.idxOf x) % l.length := by
  have hn := ht.2.2.2
  have h3 := ht.1
  have hinj : (backL l).Nodup := by
    unfold backL List.Nodup
    rw [List.pairwise_map]
    refine List.Pairwise.imp_of_mem (R := (· < ·)) ?_ List.pairwise_lt_range
    intro a b ha hb hab e
    have ha' := List.mem_range.1 ha
    have hb' := List.mem_range.1 hb
    have m1 : (l.length - a) % l.length < l.length := Nat.mod_lt _ (by omega)
    have m2 : (l.length - b) % l.length < l.length := Nat.mod_lt _ (by omega)
    have q1 := idxAt hn m1
    have q2 := idxAt hn m2
    rw [e, q2] at q1
    have c2 : (l.length - b) % l.length = l.length - b := Nat.mod_eq_of_lt (by omega)
    by_cases h0 : a = 0
    · subst h0
      rw [Nat.sub_zero, Nat.mod_self, c2] at q1
      omega
    · rw [Nat.mod_eq_of_lt (show l.length - a < l.length by omega), c2] at q1
      omega
  refine ⟨hinj, fun x hx => ?_⟩
  have hi := List.idxOf_lt_length_of_mem hx
  have m1 : (l.length - l.idxOf x) % l.length < l.length := Nat.mod_lt _ (by omega)
  have hg := backL_get l _ m1
  have e : (l.length - (l.length - l.idxOf x) % l.length) % l.length = l.idxOf x := by
    by_cases h0 : l.idxOf x = 0
    · rw [h0, Nat.sub_zero, Nat.mod_self, Nat.sub_zero, Nat.mod_self]
    · rw [Nat.mod_eq_of_lt (show l.length - l.idxOf x < l.length by omega), show l.length - (l.length - l.idxOf x) = l.idxOf x by omega, Nat.mod_eq_of_lt hi]
  have ex : l.getD (l.idxOf x) 0 = x := by
    have := List.getElem_idxOf hi
    simp [List.getD, hi, this]
  rw [e, ex] at hg
  have := idxAt hinj (i := (l.length - l.idxOf x) % l.length) (by rw [backL_length]; exact m1)
  rw [hg] at this
  exact this
theorem backL_tell' {l : List Int} (h : Tell l) : Tell (backL l) := by
  refine ⟨by rw [backL_length]; exact h.1, by rw [backL_length]; exact h.2.1, fun x hx => ?_, (backL_nodup' h).1⟩
  obtain ⟨i, _, rfl⟩ := List.mem_map.1 hx
  rw [backL_length]
  exact h.2.2.1 _ (getD_mem l _ (Nat.mod_lt _ (by have := h.1; omega)))
theorem backL_ring' {l : List Int} (h : Ring l) : Ring (backL l) := ⟨backL_tell' h.1, by rw [backL_get l 0 (by have := h.1.1; omega), Nat.sub_zero, Nat.mod_self, h.2]⟩
theorem steps_backL {l : List Int} (ht : Tell l) {x y : Int} (hx : x ∈ l) (hy : y ∈ l) (hne : l.idxOf x ≠ l.idxOf y) : stepsI (backL l) x y = (l.length : Int) - stepsI l x y := by
  rw [← steps_back ht hx hy hne]
  have h1 := List.idxOf_lt_length_of_mem hx
  have h2 := List.idxOf_lt_length_of_mem hy
  unfold stepsI
  rw [(backL_nodup' ht).2 x hx, (backL_nodup' ht).2 y hy, backL_length]
  generalize l.idxOf x = p at *
  generalize l.idxOf y = q at *
  have hn := ht.1
  generalize l.length = n at *
  have c : ∀ r, r < n → ((n - r) % n : Nat) = if r = 0 then 0 else n - r := fun r hr => by
    by_cases h0 : r = 0
    · rw [if_pos h0, h0, Nat.sub_zero, Nat.mod_self]
    · rw [if_neg h0, Nat.mod_eq_of_lt (by omega)]
  rw [c p h1, c q h2]
  have e : ((if q = 0 then 0 else n - q : Nat) : Int) - ((if p = 0 then 0 else n - p : Nat) : Int) = ((p : Int) - q) ∨ ((if q = 0 then 0 else n - q : Nat) : Int) - ((if p = 0 then 0 else n - p : Nat) : Int) = ((p : Int) - q) + n ∨ ((if q = 0 then 0 else n - q : Nat) : Int) - ((if p = 0 then 0 else n - p : Nat) : Int) + n = ((p : Int) - q) := by
    split <;> split <;> omega
  rcases e with e | e | e
  · rw [e]
  · rw [e, Int.add_emod_right]
  · rw [← e, Int.add_emod_right]

theorem ofR_ring {l : List Int} (h : Ring l) : ofR l = l := by
  rw [ofR, if_pos h.1]; exact cut_zero l (idx_zero l (by have := h.1.1; omega) h.2)
theorem backL_back (l : List Int) : backL (backL l) = l := by
  refine ext_getD _ _ (by rw [backL_length, backL_length]) fun k hk => ?_
  rw [backL_length, backL_length] at hk
  rw [backL_get _ k (by rw [backL_length]; exact hk), backL_length, backL_get l _ (Nat.mod_lt _ (by omega))]
  congr 1
  by_cases h0 : k = 0
  · subst h0; simp
  · rw [Nat.mod_eq_of_lt (show l.length - k < l.length by omega), show l.length - (l.length - k) = k by omega, Nat.mod_eq_of_lt hk]
theorem backL_other {l : List Int} (h : Tell l) : backL l ≠ l := fun e => by
  have h3 := h.1
  have hg := backL_get l 1 (by omega)
  rw [e, Nat.mod_eq_of_lt (by omega)] at hg
  have a := idxAt h.2.2.2 (i := 1) (by omega)
  have b := idxAt h.2.2.2 (i := l.length - 1) (by omega)
  rw [hg, b] at a
  omega
theorem cutL_len (l : List Int) (x : Int) : (cutL l x).length = l.length := by simp [cutL]
theorem cutL_idx {l : List Int} {x y : Int} (h : Tell l) (hx : x ∈ l) (hy : y ∈ l) : (l.idxOf x + (cutL l x).idxOf y) % l.length = l.idxOf y ∧ (cutL l x).idxOf y < l.length := by
  have hm : y ∈ cutL l x := (cutL_mem l x y hx).2 hy
  have hi := List.idxOf_lt_length_of_mem hm
  rw [cutL_len] at hi
  have e := cutL_get l x ((cutL l x).idxOf y) hi
  rw [at_idx _ y hm] at e
  have hlt : (l.idxOf x + (cutL l x).idxOf y) % l.length < l.length := Nat.mod_lt _ (by omega)
  have := idxAt h.2.2.2 hlt
  rw [← e] at this
  exact ⟨this.symm, hi⟩
theorem cut_cut {l : List Int} {x y : Int} (h : Tell l) (hx : x ∈ l) (hy : y ∈ l) : cutL (cutL l x) y = cutL l y := by
  obtain ⟨e, hi⟩ := cutL_idx h hx hy
  refine ext_getD _ _ (by rw [cutL_len, cutL_len, cutL_len]) fun k hk => ?_
  rw [cutL_len, cutL_len] at hk
  have hn : 0 < l.length := by omega
  rw [cutL_get _ y k (by rw [cutL_len]; exact hk), cutL_get l y k hk, cutL_len, cutL_get l x _ (Nat.mod_lt _ hn)]
  congr 1
  rw [Nat.add_mod_mod, ← e, Nat.mod_add_mod]
  congr 1
  omega
theorem cut_head {l : List Int} (h : Tell l) : cutL l (l.getD 0 0) = l := by
  have h3 := h.1
  have e := idxAt h.2.2.2 (i := 0) (by omega)
  refine ext_getD _ _ (by rw [cutL_len]) fun k hk => ?_
  rw [cutL_len] at hk
  rw [cutL_get l _ k hk, e, Nat.zero_add, Nat.mod_eq_of_lt hk]
theorem cut_first {l : List Int} {x : Int} (hx : x ∈ l) : (cutL l x).getD 0 0 = x := by
  have hi := List.idxOf_lt_length_of_mem hx
  rw [cutL_get l x 0 (by omega), Nat.add_zero, Nat.mod_eq_of_lt hi, at_idx l x hx]
theorem hasB_of {l : List Int} {x : Int} (h : Ring l) (hx : x ∈ l) : hasB l x = true := by
  have := h.1.2.2.1 x hx
  rw [hasB, ring_yes h]
  simpa using this
theorem hasB_no {l : List Int} {x : Int} (h : hasB l x ≠ true) : hasB l x = false := by simpa using h
theorem idx_apart {l : List Int} {x y : Int} (hx : x ∈ l) (hy : y ∈ l) (hne : x ≠ y) : l.idxOf x ≠ l.idxOf y := fun e => by
  have h1 := List.getElem_idxOf (List.idxOf_lt_length_of_mem hx)
  have h2 := List.getElem_idxOf (List.idxOf_lt_length_of_mem hy)
  exact hne (by rw [← h1, ← h2]; simp only [e])
theorem backL_mem {l : List Int} {x : Int} (hx : x ∈ l) : x ∈ backL l := by
  have hi := List.idxOf_lt_length_of_mem hx
  have hn : 0 < l.length := by omega
  have m1 : (l.length - l.idxOf x) % l.length < l.length := Nat.mod_lt _ hn
  have hg := backL_get l _ m1
  have e : (l.length - (l.length - l.idxOf x) % l.length) % l.length = l.idxOf x := by
    by_cases h0 : l.idxOf x = 0
    · rw [h0, Nat.sub_zero, Nat.mod_self, Nat.sub_zero, Nat.mod_self]
    · rw [Nat.mod_eq_of_lt (show l.length - l.idxOf x < l.length by omega), show l.length - (l.length - l.idxOf x) = l.idxOf x by omega, Nat.mod_eq_of_lt hi]
  rw [e, at_idx l x hx] at hg
  rw [← hg]
  exact getD_mem _ _ (by rw [backL_length]; exact m1)
theorem hasB2_no {l : List Int} {x y : Int} (h : ¬ hasB2 l x y = true) : hasB2 l x y = false := by simpa using h
theorem hasB2_yes {l : List Int} {x y : Int} (h : hasB2 l x y = true) : hasB l x = true ∧ hasB l y = true := by simpa [hasB2] using h
end Go.Proofs.YtgojojoanhilnabDoor
