/- The numbers of the rings by one swap: bounds; sorted and once each they are those that are marked. -/
import Derived.Test.YtamnacgclhaggabSwA
import Derived.Test.YtamnacgclhaggabPR
import Derived.Test.YtamnacgclhaggabSoL
import Derived.Sort.OwnSortedInts
namespace Go.Proofs.Ytamnacgclhaggab
open Go.ChangeShapes Go.WideShapes Go.ChangeAt Go.RowKit

theorem cnt_room (l : List Int) (i : Nat) : ∀ k, cnt l i k ≤ k - (i + 1)
  | 0 => by simp [cnt]
  | k + 1 => by
    have ih := cnt_room l i k
    rw [cnt]
    split
    · rename_i h; omega
    · omega
theorem numP_rest (l : List Int) (n : Nat) (hl : l.length = n) (hn : n ≤ 7) : ∀ j, j ≤ n → numP l n - numP l (n - j) ≤ facN j - 1 ∧ 0 ≤ numP l n - numP l (n - j)
  | 0, _ => by simp [facN]
  | j + 1, h => by
    have ih := numP_rest l n hl hn j (by omega)
    have e : n - j = (n - (j + 1)) + 1 := by omega
    have hs : numP l (n - j) = numP l (n - (j + 1)) + (cnt l (n - (j + 1)) n : Int) * facN j := by
      rw [e, numP, hl, show n - 1 - (n - (j + 1)) = j by omega]
    have hc := cnt_room l (n - (j + 1)) n
    have hf := facN_succ j (by omega)
    have hb := (facN_bd j).1
    have h1 : (cnt l (n - (j + 1)) n : Int) * facN j ≤ (j : Int) * facN j := Int.mul_le_mul_of_nonneg_right (by omega) (by omega)
    have h2 : 0 ≤ (cnt l (n - (j + 1)) n : Int) * facN j := Int.mul_nonneg (by omega) (by omega)
    have h3 : ((j + 1 : Nat) : Int) * facN j = (j : Int) * facN j + facN j := by rw [show ((j + 1 : Nat) : Int) = (j : Int) + 1 by omega, Int.add_mul, Int.one_mul]
    omega
theorem num_lt {l : List Int} (h : Ring l) : 0 ≤ numP l l.length ∧ numP l l.length < facN (l.length - 1) := by
  have h3 := h.1.1
  have hr := numP_rest l l.length rfl h.1.2.1 (l.length - 1) (by omega)
  rw [show l.length - (l.length - 1) = 1 by omega] at hr
  have h1 : numP l 1 = 0 := by
    rw [numP, cnt_zero l h.2 h.1.pos _ (Nat.le_refl _)]
    simp [numP]
  omega

/-- The numbers of the rings by one swap, point by point. -/
def numsL (l : List Int) : List Int := (List.range l.length).map fun x : Nat => numP (swapL l (x : Int)) l.length
@[simp] theorem numsL_length (l : List Int) : (numsL l).length = l.length := by simp [numsL]
theorem numsL_get (l : List Int) (x : Nat) (h : x < l.length) : (numsL l).getD x 0 = numP (swapL l (x : Int)) l.length := by simp [numsL, List.getD, h]
theorem nums_bd {l : List Int} (h : Tell l) : ∀ k ∈ numsL l, 0 ≤ k ∧ k < facN (l.length - 1) := fun k hk => by
  obtain ⟨x, hx, rfl⟩ := List.mem_map.1 hk
  have hx' := List.mem_range.1 hx
  have := num_lt (swapL_ring h (h.has (x := (x : Int)) (by omega) (by omega)))
  rw [swapL_length] at this
  exact this
/-- Those of 0 .. (n - 1)! - 1 that are such a number. -/
def nearK (l : List Int) : List Int := ((List.range (facM l.length)).filter fun k : Nat => decide ((k : Int) ∈ numsL l)).map fun k : Nat => (k : Int)
def nearL (l : List Int) : List (List Int) := (nearK l).map (byL l.length)

theorem strict_eq : ∀ (a b : List Int), a.Pairwise (· < ·) → b.Pairwise (· < ·) → (∀ x, x ∈ a ↔ x ∈ b) → a = b
  | [], [], _, _, _ => rfl
  | [], y :: b, _, _, h => absurd ((h y).2 (by simp)) (by simp)
  | x :: a, [], _, _, h => absurd ((h x).1 (by simp)) (by simp)
  | x :: a, y :: b, ha, hb, h => by
    have ha' := List.pairwise_cons.1 ha
    have hb' := List.pairwise_cons.1 hb
    have e : x = y := by
      have h1 := (h x).1 (by simp)
      have h2 := (h y).2 (by simp)
      rcases List.mem_cons.1 h1 with h1 | h1
      · exact h1
      · rcases List.mem_cons.1 h2 with h2 | h2
        · exact h2.symm
        · have := ha'.1 y h2; have := hb'.1 x h1; omega
    subst e
    rw [strict_eq a b ha'.2 hb'.2 fun z => ?_]
    constructor
    · intro hz
      rcases List.mem_cons.1 ((h z).1 (by simp [hz])) with e | e
      · have := ha'.1 z hz; omega
      · exact e
    · intro hz
      rcases List.mem_cons.1 ((h z).2 (by simp [hz])) with e | e
      · have := hb'.1 z hz; omega
      · exact e

theorem compact_sorted (d : Array Int) (hs : ∀ i j, i ≤ j → j < d.size → d[i]! ≤ d[j]!) : ∀ m, m ≤ d.size →
    (Lib.compactUpTo d m).Pairwise (· < ·) ∧ (∀ x, x ∈ Lib.compactUpTo d m ↔ ∃ j, j < m ∧ d[j]! = x)
  | 0, _ => by simp [Lib.compactUpTo]
  | m + 1, h => by
    obtain ⟨h1, h2⟩ := compact_sorted d hs m (by omega)
    rw [Lib.compactUpTo_succ]
    by_cases hk : Lib.keeps d m
    · rw [if_pos hk]
      constructor
      · rw [List.pairwise_append]
        refine ⟨h1, by simp, fun x hx y hy => ?_⟩
        obtain ⟨j, hj, rfl⟩ := (h2 x).1 hx
        rw [List.mem_singleton.1 hy]
        have hm : m ≠ 0 := by omega
        have hne : d[m]! ≠ d[m - 1]! := by
          unfold Lib.keeps at hk
          rcases of_decide_eq_true hk with e | e
          · exact absurd e hm
          · exact e
        have a1 := hs j (m - 1) (by omega) (by omega)
        have a2 := hs (m - 1) m (by omega) (by omega)
        omega
      · intro x
        rw [List.mem_append, h2]
        constructor
        · rintro (⟨j, hj, e⟩ | hx)
          · exact ⟨j, by omega, e⟩
          · exact ⟨m, by omega, (List.mem_singleton.1 hx).symm⟩
        · rintro ⟨j, hj, e⟩
          by_cases hjm : j = m
          · subst hjm; exact .inr (by simp [e])
          · exact .inl ⟨j, by omega, e⟩
    · rw [if_neg hk, List.append_nil]
      refine ⟨h1, fun x => ?_⟩
      rw [h2]
      have hm : m ≠ 0 ∧ d[m]! = d[m - 1]! := by
        unfold Lib.keeps at hk
        simpa using hk
      constructor
      · rintro ⟨j, hj, e⟩; exact ⟨j, by omega, e⟩
      · rintro ⟨j, hj, e⟩
        by_cases hjm : j = m
        · subst hjm; exact ⟨j - 1, by omega, by rw [← hm.2]; exact e⟩
        · exact ⟨j, by omega, e⟩

def sortI (zs : List Int) : List Int := zs.mergeSort fun x y => decide (x ≤ y)
theorem sortI_length (zs : List Int) : (sortI zs).length = zs.length := List.length_mergeSort _
theorem sortI_mem (zs : List Int) (x : Int) : x ∈ sortI zs ↔ x ∈ zs := List.mem_mergeSort
theorem near_eq {l : List Int} (h : Tell l) : Lib.compact (sortI (numsL l)) = nearK l := by
  have hp : (sortI (numsL l)).Pairwise (· ≤ ·) := by
    have := List.pairwise_mergeSort (le := fun x y : Int => decide (x ≤ y)) (fun a b c h1 h2 => by simp at *; omega) (fun a b => by simp; omega) (numsL l)
    exact this.imp (by simp)
  have hs : ∀ i j, i ≤ j → j < (sortI (numsL l)).toArray.size → (sortI (numsL l)).toArray[i]! ≤ (sortI (numsL l)).toArray[j]! := fun i j hij hj => by
    have hj' : j < (sortI (numsL l)).length := by simpa using hj
    rcases Nat.lt_or_ge i j with hlt | hge
    · have := List.pairwise_iff_getElem.1 hp i j (by omega) hj' hlt
      simpa [show i < (sortI (numsL l)).length by omega, hj'] using this
    · have : i = j := by omega
      subst this; omega
  obtain ⟨h1, h2⟩ := compact_sorted (sortI (numsL l)).toArray hs _ (Nat.le_refl _)
  refine strict_eq _ _ ?_ ?_ fun x => ?_
  · simpa [Lib.compact] using h1
  · unfold nearK
    rw [List.pairwise_map]
    exact ((List.pairwise_lt_range).filter _).imp fun {a b} hab => by omega
  · have e1 : x ∈ Lib.compact (sortI (numsL l)) ↔ x ∈ numsL l := by
      unfold Lib.compact
      rw [show (sortI (numsL l)).length = (sortI (numsL l)).toArray.size by simp, h2, ← sortI_mem]
      constructor
      · rintro ⟨j, hj, rfl⟩
        have hj' : j < (sortI (numsL l)).length := by simpa using hj
        simp [hj']
      · intro hx
        obtain ⟨j, hj, e⟩ := List.getElem_of_mem hx
        exact ⟨j, by simpa using hj, by simp [hj, e]⟩
    rw [e1]
    unfold nearK
    simp only [List.mem_map, List.mem_filter, List.mem_range, decide_eq_true_eq]
    constructor
    · intro hx
      have hb := nums_bd h x hx
      have hf := (facM_eq7 l.length h.1 h.2.1).1
      exact ⟨x.toNat, ⟨by omega, by rw [show ((x.toNat : Nat) : Int) = x by omega]; exact hx⟩, by omega⟩
    · rintro ⟨k, ⟨_, hk⟩, rfl⟩; exact hk

/-- The library's sort and its compaction over a row of the call's own. -/
theorem sort_own (g n cap B : Nat) (zs : List Int) (w : World) (h : Own w B (.slice (some ⟨g, 0, none⟩) n cap) zs) (hn : zs.length = n) (hs : n ≤ 1048576) :
    Calls Try.prog 85 #[.slice (some ⟨g, 0, none⟩) n cap] w fun e w' => e = .returned (.tuple #[]) ∧ Own w' B (.slice (some ⟨g, 0, none⟩) n cap) (sortI zs) ∧ w.grownBy w' (some g) := by
  subst hn
  rcases h.2 with ⟨h0, _⟩ | ⟨g', cap', cur, hv, hg, hh, h1, h2, h3, h4⟩
  · cases h0
  cases hv
  rw [Nat.mul_one] at h4
  refine (Try.slices_Sort_int g 0 cap zs w (holds_of_blockI hh h4) (Array.getElem?_eq_some_iff.1 hh).1 (by omega)).mono ?_
  rintro e w' ⟨rfl, m, os, rfl⟩
  refine ⟨rfl, ?_, grownBy_sortedI _⟩
  have := ownsRow_sortedI (n := m) (os := os) (sortI_length zs) hg hh h1 h2 h3
  unfold Own
  rw [sortI_length]
  exact this
theorem compact_length (zs : List Int) : (Lib.compact zs).length ≤ zs.length := by
  unfold Lib.compact Lib.compactUpTo
  rw [List.length_map]
  have := List.length_filter_le (Lib.keeps zs.toArray) (List.range zs.length)
  simpa using this
theorem compact_own (g n cap B : Nat) (zs : List Int) (w : World) (h : Own w B (.slice (some ⟨g, 0, none⟩) n cap) zs) (hn : zs.length = n) (hs : n ≤ 1048576) :
    Calls Try.prog 86 #[.slice (some ⟨g, 0, none⟩) n cap] w fun e w' => e = .returned (.slice (some ⟨g, 0, none⟩) (Lib.compact zs).length cap) ∧ Own w' B (.slice (some ⟨g, 0, none⟩) (Lib.compact zs).length cap) (Lib.compact zs) ∧ w.grownBy w' (some g) := by
  subst hn
  rcases h.2 with ⟨h0, _⟩ | ⟨g', cap', cur, hv, hg, hh, h1, h2, h3, h4⟩
  · cases h0
  cases hv
  rw [Nat.mul_one] at h4
  refine (Try.slices_Compact_int g 0 cap zs w (holds_of_blockI hh h4) (by omega) h1).mono ?_
  rintro e w' ⟨rfl, q, rfl⟩
  have hl := compact_length zs
  have hgr := grownBy_sortedI (w := w) (g := g) (n := q) (os := #[]) (Lib.compact zs ++ List.replicate (zs.length - (Lib.compact zs).length) 0).toArray
  have hhe := heap_sortedI (w := w) (g := g) (n := q) (os := #[]) (Lib.compact zs ++ List.replicate (zs.length - (Lib.compact zs).length) 0).toArray hh
  simp only [Sort.grow_empty] at hgr hhe
  refine ⟨rfl, ⟨by simp, .inr ⟨g, cap, _, rfl, hg, hhe, by omega, h2, by simp [Sort.putCells, h3], ?_⟩⟩, hgr⟩
  have ht := take_putCellsI cur (Lib.compact zs ++ List.replicate (zs.length - (Lib.compact zs).length) 0) (by simp; omega)
  have h5 := congrArg (List.take (Lib.compact zs).length) ht
  rw [List.take_take, Nat.min_eq_left (by simp)] at h5
  rw [Nat.mul_one, h5]
  simp [ints]
end Go.Proofs.Ytamnacgclhaggab
