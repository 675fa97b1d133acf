/- Threes go round, and not the other way: the maths of FnThree. -/
import Derived.Test.YtamnacgclhaggaaCC
import Derived.Test.YtamnacgclhaggaaPR
namespace Go.Proofs.Ytamnacgclhaggaa
open Go.ChangeShapes Go.WideShapes Go.ChangeAt Go.RowKit

theorem emod_sub {i j n : Int} (hi0 : 0 ≤ i) (hi : i < n) (hj0 : 0 ≤ j) (hj : j < n) : (j - i) % n = if i ≤ j then j - i else j - i + n := by
  split
  · exact Int.emod_eq_of_lt (by omega) (by omega)
  · rw [← Int.add_emod_right]; exact Int.emod_eq_of_lt (by omega) (by omega)
theorem has3_not {l : List Int} {x y z : Int} (h : has3 l [x, y, z] = true) : has3 l [x, z, y] = false := by
  unfold has3 at h ⊢
  simp only [List.getD_cons_zero, List.getD_cons_succ, decide_eq_true_eq, decide_eq_false_iff_not] at h ⊢
  omega
theorem has3_turn {l : List Int} {x y z : Int} (hx : x ∈ l) (hy : y ∈ l) (hz : z ∈ l) (h1 : x ≠ y) (h2 : y ≠ z) (h3 : x ≠ z) (h : has3 l [x, y, z] = true) : has3 l [y, z, x] = true := by
  have a1 := List.idxOf_lt_length_of_mem hx
  have a2 := List.idxOf_lt_length_of_mem hy
  have a3 := List.idxOf_lt_length_of_mem hz
  have b1 := idx_apart hx hy h1
  have b2 := idx_apart hy hz h2
  have b3 := idx_apart hx hz h3
  unfold has3 stepsI at h ⊢
  simp only [List.getD_cons_zero, List.getD_cons_succ, decide_eq_true_eq] at h ⊢
  generalize l.idxOf x = i at *
  generalize l.idxOf y = j at *
  generalize l.idxOf z = k at *
  rw [emod_sub (by omega) (by omega) (by omega) (by omega), emod_sub (by omega) (by omega) (by omega) (by omega)] at h ⊢
  split at h <;> split at h <;> split <;> split <;> omega
theorem idx_back {l : List Int} (hn : l.Nodup) {i : Nat} (hi : i < l.length) : l.idxOf (l.getD i 0) = i := by
  have e : l.getD i 0 = l[i] := by simp [List.getD, hi]
  rw [e]
  exact hn.idxOf_getElem i hi
theorem backL_nodup {l : List Int} (hn : l.Nodup) : (backL l).Nodup := by
  unfold backL List.Nodup
  rw [List.pairwise_map]
  refine List.Pairwise.imp_of_mem (R := (· < ·)) ?_ List.pairwise_lt_range
  intro a b ha hb hab e
  have ha' := List.mem_range.1 ha
  have hb' := List.mem_range.1 hb
  have m1 : (l.length - a) % l.length < l.length := Nat.mod_lt _ (by omega)
  have m2 : (l.length - b) % l.length < l.length := Nat.mod_lt _ (by omega)
  have q1 := idx_back hn m1
  have q2 := idx_back hn m2
  rw [e, q2] at q1
  have c2 : (l.length - b) % l.length = l.length - b := Nat.mod_eq_of_lt (by omega)
  by_cases h0 : a = 0
  · subst h0
    rw [Nat.sub_zero, Nat.mod_self, c2] at q1
    omega
  · rw [Nat.mod_eq_of_lt (show l.length - a < l.length by omega), c2] at q1
    omega
theorem backL_idx {l : List Int} (hn : l.Nodup) {x : Int} (hx : x ∈ l) : (backL l).idxOf x = (l.length - l.idxOf x) % l.length := by
  have hi := List.idxOf_lt_length_of_mem hx
  have m1 : (l.length - l.idxOf x) % l.length < l.length := Nat.mod_lt _ (by omega)
  have hg := backL_get l _ m1
  have e : (l.length - (l.length - l.idxOf x) % l.length) % l.length = l.idxOf x := by
    by_cases h0 : l.idxOf x = 0
    · rw [h0, Nat.sub_zero, Nat.mod_self, Nat.sub_zero, Nat.mod_self]
    · rw [Nat.mod_eq_of_lt (show l.length - l.idxOf x < l.length by omega), show l.length - (l.length - l.idxOf x) = l.idxOf x by omega, Nat.mod_eq_of_lt hi]
  have ex : l.getD (l.idxOf x) 0 = x := by
    have := List.getElem_idxOf hi
    simp [List.getD, hi, this]
  rw [e, ex] at hg
  have := idx_back (backL_nodup hn) (i := (l.length - l.idxOf x) % l.length) (by rw [backL_length]; exact m1)
  rw [hg] at this
  exact this
theorem has3_back {l : List Int} (hn : l.Nodup) {x y z : Int} (hx : x ∈ l) (hy : y ∈ l) (hz : z ∈ l) (h1 : x ≠ y) (h2 : y ≠ z) (h3 : x ≠ z) (h : has3 l [x, y, z] = true) : has3 (backL l) [x, z, y] = true := by
  have a1 := List.idxOf_lt_length_of_mem hx
  have a2 := List.idxOf_lt_length_of_mem hy
  have a3 := List.idxOf_lt_length_of_mem hz
  have b1 := idx_apart hx hy h1
  have b2 := idx_apart hy hz h2
  have b3 := idx_apart hx hz h3
  unfold has3 stepsI at h ⊢
  simp only [List.getD_cons_zero, List.getD_cons_succ, decide_eq_true_eq, backL_length, backL_idx hn hx, backL_idx hn hy, backL_idx hn hz] at h ⊢
  generalize l.idxOf x = i at *
  generalize l.idxOf y = j at *
  generalize l.idxOf z = k at *
  have md : ∀ i, i < l.length → (l.length - i) % l.length = if i = 0 then 0 else l.length - i := fun i hi => by
    split
    · rename_i e; rw [e, Nat.sub_zero, Nat.mod_self]
    · exact Nat.mod_eq_of_lt (by omega)
  have c1 := md i a1
  have c2 := md j a2
  have c3 := md k a3
  generalize (l.length - i) % l.length = i' at *
  generalize (l.length - j) % l.length = j' at *
  generalize (l.length - k) % l.length = k' at *
  clear md
  have d1 : i' < l.length := by split at c1 <;> omega
  have d2 : j' < l.length := by split at c2 <;> omega
  have d3 : k' < l.length := by split at c3 <;> omega
  rw [emod_sub (by omega) (by omega) (by omega) (by omega), emod_sub (by omega) (by omega) (by omega) (by omega)] at h ⊢
  split at h <;> split at h <;> split <;> split <;> split at c1 <;> split at c2 <;> split at c3 <;> omega
theorem backL_ring {l : List Int} (h : Ring l) : Ring (backL l) := by
  obtain ⟨⟨h1, h2, h3, h4⟩, h0⟩ := h
  refine ⟨⟨by rw [backL_length]; exact h1, by rw [backL_length]; exact h2, fun x hx => ?_, backL_nodup h4⟩, ?_⟩
  · obtain ⟨i, _, rfl⟩ := List.mem_map.1 hx
    rw [backL_length]
    exact h3 _ (getD_mem l _ (Nat.mod_lt _ (by omega)))
  · rw [backL_get l 0 (by omega), Nat.sub_zero, Nat.mod_self, h0]
end Go.Proofs.Ytamnacgclhaggaa
