/- Maths of swaps: how many rings are one swap away, their numbers. -/
import Derived.Test.YtamnacgclhaggabSwX
import Derived.Test.YtamnacgclhaggabSwR
import Derived.Test.YtamnacgclhaggabRank
import Derived.Test.YtamnacgclhaggabNumT
import Derived.Test.YtamnacgclhaggabLawD
namespace Go.Proofs.Ytamnacgclhaggab
open Go.ChangeShapes Go.WideShapes Go.ChangeAt Go.RowKit

theorem two_swaps : ∀ n : Fin 8, ∀ i j : Fin 7, 4 ≤ n.val → i.val < n.val → j.val < n.val → i ≠ j → ∃ a b c : Fin 7, a.val < b.val ∧ b.val < c.val ∧ c.val < n.val ∧ bothP i.val ((i.val + 1) % n.val) a.val b.val c.val ≠ bothP j.val ((j.val + 1) % n.val) a.val b.val c.val := by decide +kernel
theorem idx_getD {l : List Int} (h : Tell l) {a : Nat} (ha : a < l.length) : l.idxOf (l.getD a 0) = a := idx_back h.2.2.2 ha
theorem swap_inj {l : List Int} {x y : Int} (hr : Ring l) (h4 : 4 ≤ l.length) (hx : x ∈ l) (hy : y ∈ l) (e : swapL l x = swapL l y) : x = y := by
  have h7 := hr.1.2.1
  have hi := List.idxOf_lt_length_of_mem hx
  have hj := List.idxOf_lt_length_of_mem hy
  have hz : l.idxOf x = l.idxOf y := by
    refine Classical.byContradiction fun hne => ?_
    obtain ⟨⟨a, ha⟩, ⟨b, hb⟩, ⟨c, hc⟩, h1, h2, h3, h5⟩ := two_swaps ⟨l.length, by omega⟩ ⟨l.idxOf x, by omega⟩ ⟨l.idxOf y, by omega⟩ h4 hi hj (by simpa using hne)
    simp only at h1 h2 h3 h5
    have ma := getD_mem l a (by omega)
    have mb := getD_mem l b (by omega)
    have mc := getD_mem l c h3
    have ia := idx_getD hr.1 (a := a) (by omega)
    have ib := idx_getD hr.1 (a := b) (by omega)
    have ic := idx_getD hr.1 (a := c) h3
    have n1 : l.getD a 0 ≠ l.getD b 0 := fun h => by rw [h, ib] at ia; omega
    have n2 : l.getD b 0 ≠ l.getD c 0 := fun h => by rw [h, ic] at ib; omega
    have n3 : l.getD a 0 ≠ l.getD c 0 := fun h => by rw [h, ic] at ia; omega
    have p := swap_has3p hr hx ma mb mc n1 n2 n3
    have q := swap_has3p hr hy ma mb mc n1 n2 n3
    rw [ia, ib, ic] at p q
    rw [e, q] at p
    cases u : bothP (l.idxOf x) ((l.idxOf x + 1) % l.length) a b c <;> cases v : bothP (l.idxOf y) ((l.idxOf y + 1) % l.length) a b c <;> rw [u, v] at h5 p
    · exact h5 rfl
    · revert p; cases has3 l [l.getD a 0, l.getD b 0, l.getD c 0] <;> simp
    · revert p; cases has3 l [l.getD a 0, l.getD b 0, l.getD c 0] <;> simp
    · exact h5 rfl
  rw [← get_idx hx, hz, get_idx hy]
theorem nums_nodup {l : List Int} (hr : Ring l) (h4 : 4 ≤ l.length) : (numsL l).Nodup := by
  unfold numsL
  rw [List.Nodup, List.pairwise_map]
  refine (List.nodup_range (n := l.length)).imp_of_mem fun {x y} hx hy hne e => hne ?_
  rw [List.mem_range] at hx hy
  have mx := pt_in hr.1 hx
  have my := pt_in hr.1 hy
  have rx := swap_ring hr mx
  have ry := swap_ring hr my
  have e1 := (ring_num rx.1).2.2
  have e2 := (ring_num ry.1).2.2
  rw [rx.2] at e1
  rw [ry.2] at e2
  have : swapL l (x : Int) = swapL l (y : Int) := by rw [← e1, ← e2, e]
  have := swap_inj hr h4 mx my this
  omega
theorem near_up (l : List Int) : (nearK l).Pairwise (· < ·) := by
  unfold nearK
  rw [List.pairwise_map]
  exact (List.pairwise_lt_range.filter _).imp fun h => by omega
theorem near_mem {l : List Int} (h : Tell l) (k : Int) : k ∈ nearK l ↔ k ∈ numsL l := by
  unfold nearK
  simp only [List.mem_map, List.mem_filter, List.mem_range, decide_eq_true_eq]
  constructor
  · rintro ⟨j, ⟨_, hj⟩, rfl⟩; exact hj
  · intro hk
    have b := nums_bd h k hk
    have f := (facM_eq7 l.length h.1 h.2.1).1
    exact ⟨k.toNat, ⟨by omega, by rw [show ((k.toNat : Nat) : Int) = k by omega]; exact hk⟩, by omega⟩
theorem near_three : (nearK (byL 3 0)).length = 1 ∧ (nearK (byL 3 1)).length = 1 := by decide +kernel
theorem near_count {l : List Int} (hr : Ring l) : (nearK l).length = if l.length = 3 then 1 else l.length := by
  have h3 := hr.1.1
  by_cases h : l.length = 3
  · rw [if_pos h]
    obtain ⟨a, b, c⟩ := ring_num hr
    rw [h] at a b c
    have : facN (3 - 1) = 2 := by decide
    rw [this] at b
    obtain e | e : numP l 3 = 0 ∨ numP l 3 = 1 := by omega
    · rw [e] at c; rw [← c]; exact near_three.1
    · rw [e] at c; rw [← c]; exact near_three.2
  · rw [if_neg h, ← numsL_length l]
    refine List.Perm.length_eq ((List.perm_ext_iff_of_nodup ((near_up l).imp fun h => by omega) (nums_nodup hr (by omega))).2 fun k => near_mem hr.1 k)
/-- Each row of the near. -/
theorem near_row {l : List Int} (hr : Ring l) (k : Nat) (hk : k < (snR l).length) : TwoR l (rowK (snR l) k) ∧ sdR l (rowK (snR l) k) = (l.length : Int) - 2 ∧ numR (rowK (snR l) k) = (nearK l).getD k 0 ∧ ringB (rowK (snR l) k) = true := by
  have h3 := hr.1.1
  have h7 := hr.1.2.1
  have e : snR l = (nearK l).map (byL l.length) := by rw [snR, if_pos hr]; rfl
  rw [e] at hk ⊢
  rw [List.length_map] at hk
  have er : rowK ((nearK l).map (byL l.length)) k = byL l.length ((nearK l).getD k 0) := by simp [rowK, List.getD, hk]
  rw [er]
  have hm := getD_mem (nearK l) k hk
  generalize (nearK l).getD k 0 = q at *
  obtain ⟨q0, q1⟩ := nearK_mem hr.1 q hm
  obtain ⟨r1, r2⟩ := by_tell l.length q h3 h7 q0 q1
  rw [near_mem hr.1, numsL, List.mem_map] at hm
  obtain ⟨x, hx, ex⟩ := hm
  rw [List.mem_range] at hx
  have mx := pt_in hr.1 hx
  have rx := swap_ring hr mx
  have e1 := (ring_num rx.1).2.2
  rw [rx.2, ex] at e1
  have ht : TwoR l (byL l.length q) := ⟨hr, r1, (byL_length _ _).symm⟩
  refine ⟨ht, ?_, ?_, ring_yes r1⟩
  · rw [sd_two ht, e1]
    exact swap_differ hr mx
  · rw [numR, if_pos r1, byL_length]; exact r2
end Go.Proofs.Ytamnacgclhaggab
