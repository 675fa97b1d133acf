/- Rings that part all of a scheme: both ways round; the first one. -/
import Derived.Test.YtamnacgclhaggabPqM
import Derived.Test.YtamnacgclhaggabPrT
import Derived.Test.YtamnacgclhaggabRank
namespace Go.Proofs.Ytamnacgclhaggab
open Go.ChangeShapes Go.WideShapes Go.ChangeAt Go.RowKit

theorem pq_key1 : ∀ n : Fin 7, 3 ≤ n.val → (ringsL n.val).Nodup := by decide +kernel
theorem pq_key2 : ∀ n : Fin 7, 3 ≤ n.val → (ringsL n.val).all (fun l => (ringsL n.val).contains (backL l) && backL l != l && backL (backL l) == l && ringB l) = true := by decide +kernel
theorem pq_ring {n : Nat} {l : List Int} (h3 : 3 ≤ n) (h6 : n ≤ 6) (hl : l ∈ ringsL n) : backL l ∈ ringsL n ∧ backL l ≠ l ∧ backL (backL l) = l ∧ Ring l := by
  have k := pq_key2 ⟨n, by omega⟩ h3
  simp only [List.all_eq_true, Bool.and_eq_true, List.contains_iff_mem, bne_iff_ne, beq_iff_eq] at k
  obtain ⟨⟨⟨a, b⟩, c⟩, d⟩ := k l hl
  exact ⟨a, b, c, by simpa [ringB] using d⟩
theorem even_inv2 {α : Type} [DecidableEq α] (f : α → α) : ∀ (m : Nat) (M : List α), M.length ≤ m → M.Nodup → (∀ x ∈ M, f x ∈ M) → (∀ x ∈ M, f x ≠ x) → (∀ x ∈ M, f (f x) = x) → M.length % 2 = 0
  | _, [], _, _, _, _, _ => rfl
  | 0, a :: t, hl, _, _, _, _ => by simp at hl
  | m + 1, a :: t, hl, hnd, hc, hne, hinv => by
    obtain ⟨hat, hnt⟩ := List.nodup_cons.1 hnd
    have hb : f a ∈ t := by
      rcases List.mem_cons.1 (hc a (by simp)) with h | h
      · exact absurd h (hne a (by simp))
      · exact h
    have hlen : (t.erase (f a)).length = t.length - 1 := List.length_erase_of_mem hb
    have hpos := List.length_pos_of_mem hb
    have ih := even_inv2 f m (t.erase (f a)) (by simp at hl; omega) (hnt.erase _) (fun x hx => ?_) (fun x hx => hne x (by simp [List.mem_of_mem_erase hx])) (fun x hx => hinv x (by simp [List.mem_of_mem_erase hx]))
    · simp only [List.length_cons]; omega
    · have hx2 := (hnt.mem_erase_iff).1 hx
      have hxm : x ∈ a :: t := by simp [hx2.2]
      have h1 : f x ≠ a := fun e => hx2.1 (by rw [← hinv x hxm, e])
      have h2 : f x ≠ f a := fun e => hat (by
        have e2 : x = a := by rw [← hinv x hxm, e, hinv a (by simp)]
        rw [← e2]; exact hx2.2)
      rcases List.mem_cons.1 (hc x hxm) with h | h
      · exact absurd h h1
      · exact (hnt.mem_erase_iff).2 ⟨h2, h⟩
theorem pr_mem {n : Nat} {L : List (List Int)} {l : List Int} : l ∈ prL n L ↔ l ∈ ringsL n ∧ ∀ t ∈ L, partB l t = true := by
  unfold prL
  rw [List.mem_filter, List.all_eq_true]
theorem pr_back {n : Nat} {L : List (List Int)} (h3 : 3 ≤ n) (h6 : n ≤ 6) (hL : ∀ t ∈ L, Four (n : Int) t) {l : List Int} (hl : l ∈ prL n L) : backL l ∈ prL n L := by
  obtain ⟨h1, h2⟩ := pr_mem.1 hl
  obtain ⟨hb, _, _, hr⟩ := pq_ring h3 h6 h1
  have hI := ringsL_is n h3 h6 l h1
  refine pr_mem.2 ⟨hb, fun t ht => ?_⟩
  obtain ⟨x, y, z, u, rfl, f⟩ := four_f4 hr.1 (by rw [hI.1]; exact hL t ht)
  rw [part_back hr.1.2.2.2 f]
  exact h2 _ ht
theorem pr_even {n : Nat} {L : List (List Int)} (h3 : 3 ≤ n) (h6 : n ≤ 6) (hL : ∀ t ∈ L, Four (n : Int) t) : (prL n L).length % 2 = 0 :=
  even_inv2 backL _ _ (Nat.le_refl _) ((pq_key1 ⟨n, by omega⟩ h3).sublist List.filter_sublist) (fun x hx => pr_back h3 h6 hL hx) (fun x hx => (pq_ring h3 h6 (pr_mem.1 hx).1).2.1) (fun x hx => (pq_ring h3 h6 (pr_mem.1 hx).1).2.2.1)
theorem rings_sorted {n : Nat} (h3 : 3 ≤ n) (h7 : n ≤ 7) : (ringsL n).Pairwise (fun a b => numP a n < numP b n) := by
  have hf := (facM_eq7 n h3 h7).1
  unfold ringsL
  rw [List.pairwise_map]
  refine List.Pairwise.imp_of_mem (R := (· < ·)) ?_ List.pairwise_lt_range
  intro a b ha hb hab
  have ha' := List.mem_range.1 ha
  have hb' := List.mem_range.1 hb
  show numP (byL n (a : Int)) n < numP (byL n (b : Int)) n
  rw [(by_tell n (a : Int) h3 h7 (by omega) (by omega)).2, (by_tell n (b : Int) h3 h7 (by omega) (by omega)).2]
  omega
/-- The first one is ahead of its own way back. -/
theorem first_ahead {n : Nat} {L : List (List Int)} (h3 : 3 ≤ n) (h6 : n ≤ 6) (hL : ∀ t ∈ L, Four (n : Int) t) (h0 : 0 < (prL n L).length) : numP (rowK (prL n L) 0) n < numP (backL (rowK (prL n L) 0)) n := by
  have hs := (rings_sorted h3 (by omega)).sublist (List.filter_sublist (p := fun l => L.all (partB l)) (l := ringsL n))
  have hb := pr_back h3 h6 hL (rowK_mem h0)
  have hne := (pq_ring h3 h6 (pr_mem.1 (rowK_mem h0)).1).2.1
  change (prL n L).Pairwise _ at hs
  revert hs hb hne
  generalize prL n L = M at *
  match M, h0 with
  | a :: t, _ =>
    intro hb hne hs
    have e : rowK (a :: t) 0 = a := rfl
    rw [e] at hb hne ⊢
    rcases List.mem_cons.1 hb with h | h
    · exact absurd h hne
    · exact (List.pairwise_cons.1 hs).1 _ h
end Go.Proofs.Ytamnacgclhaggab
