/- Two parts that have each point in one of them: the program's reading, the model's check. -/
import Derived.Test.YtgojojoanhilnaaDoorWvF
import Derived.Test.YtgojojoanhilnaaDoorMA
namespace Go.Proofs.YtgojojoanhilnaaDoor
open Go.ChangeShapes Go.WideShapes Go.ChangeAt Go.RowKit

/-- Whether two lists are parts of n points that have each point in just one of them. -/
def Wov (n : Int) (p q : List Int) : Prop := Prt n p ∧ Prt n q ∧ maskN p ^^^ maskN q = 2 ^ n.toNat - 1
instance (n : Int) (p q : List Int) : Decidable (Wov n p q) := by unfold Wov; infer_instance
def wov (n : Int) (p q : List Int) : Bool := decide (Wov n p q)
theorem wov_yes {n : Int} {p q : List Int} (h : Wov n p q) : wov n p q = true := by simpa [wov] using h
theorem wov_no {n : Int} {p q : List Int} (h : ¬ Wov n p q) : wov n p q = false := by simpa [wov] using h

theorem mask_fits {n : Int} {p : List Int} (h : Prt n p) (j : Nat) (hj : n ≤ j) : (maskN p).testBit j = false := by
  have := mask_bit p (fun x hx => (h.bd x hx).1) j 0
  rw [show maskN p = (p.foldl (fun s x => s ||| 2 ^ x.toNat) 0) from rfl, this]
  simp only [Nat.zero_testBit, Bool.false_or, decide_eq_false_iff_not]
  intro hm
  have := h.2.2.1.1 _ hm
  omega
theorem mask_at {n : Int} {p : List Int} (h : Prt n p) (j : Nat) : (maskN p).testBit j = decide ((j : Int) ∈ p) := by
  have := mask_bit p (fun x hx => (h.bd x hx).1) j 0
  rw [show maskN p = (p.foldl (fun s x => s ||| 2 ^ x.toNat) 0) from rfl, this]
  simp
/-- Each point is in just one of the two. -/
theorem xor_full {n : Int} {p q : List Int} (hp : Prt n p) (hq : Prt n q) : maskN p ^^^ maskN q = 2 ^ n.toNat - 1 ↔ ∀ j : Nat, (j : Int) < n → ((j : Int) ∈ p ↔ (j : Int) ∉ q) := by
  have h3 := hp.1
  constructor
  · intro e j hj
    have := congrArg (fun s => s.testBit j) e
    simp only [Nat.testBit_xor, mask_at hp, mask_at hq, Nat.testBit_two_pow_sub_one] at this
    have hj' : decide (j < n.toNat) = true := by simp; omega
    rw [hj'] at this
    by_cases h1 : (j : Int) ∈ p <;> by_cases h2 : (j : Int) ∈ q <;> simp_all
  · intro h
    apply Nat.eq_of_testBit_eq
    intro j
    simp only [Nat.testBit_xor, mask_at hp, mask_at hq, Nat.testBit_two_pow_sub_one]
    by_cases hj : (j : Int) < n
    · have hj' : decide (j < n.toNat) = true := by simp; omega
      rw [hj']
      have := h j hj
      by_cases h1 : (j : Int) ∈ p <;> by_cases h2 : (j : Int) ∈ q <;> simp_all
    · have hj' : decide (j < n.toNat) = false := by simp; omega
      have h1 : (j : Int) ∉ p := fun hm => by have := hp.2.2.1.1 _ hm; omega
      have h2 : (j : Int) ∉ q := fun hm => by have := hq.2.2.1.1 _ hm; omega
      rw [hj', decide_eq_false h1, decide_eq_false h2]; rfl
theorem or_full {n : Int} {p q : List Int} (hp : Prt n p) (hq : Prt n q) : maskN p ||| maskN q = 2 ^ n.toNat - 1 ↔ ∀ j : Nat, (j : Int) < n → ((j : Int) ∈ p ∨ (j : Int) ∈ q) := by
  have h3 := hp.1
  constructor
  · intro e j hj
    have := congrArg (fun s => s.testBit j) e
    simp only [Nat.testBit_or, mask_at hp, mask_at hq, Nat.testBit_two_pow_sub_one] at this
    have hj' : decide (j < n.toNat) = true := by simp; omega
    rw [hj'] at this
    by_cases h1 : (j : Int) ∈ p <;> by_cases h2 : (j : Int) ∈ q <;> simp_all
  · intro h
    apply Nat.eq_of_testBit_eq
    intro j
    simp only [Nat.testBit_or, mask_at hp, mask_at hq, Nat.testBit_two_pow_sub_one]
    by_cases hj : (j : Int) < n
    · have hj' : decide (j < n.toNat) = true := by simp; omega
      rw [hj']
      have := h j hj
      by_cases h1 : (j : Int) ∈ p <;> by_cases h2 : (j : Int) ∈ q <;> simp_all
    · have hj' : decide (j < n.toNat) = false := by simp; omega
      have h1 : (j : Int) ∉ p := fun hm => by have := hp.2.2.1.1 _ hm; omega
      have h2 : (j : Int) ∉ q := fun hm => by have := hq.2.2.1.1 _ hm; omega
      rw [hj', decide_eq_false h1, decide_eq_false h2]; rfl
theorem nodup_all {n : Nat} {l : List Int} (hd : l.Nodup) (hin : ∀ x ∈ l, 0 ≤ x ∧ x < n) (hl : n ≤ l.length) (j : Nat) (hj : j < n) : (j : Int) ∈ l := by
  have h1 := nodup_le n l hd hin
  have e : l.length = n := by omega
  exact all_in l hd (fun x hx => by rw [e]; exact hin x hx) j (by omega)
/-- The model's way to ask it. -/
theorem wov_model {n : Int} {p q : List Int} (hp : Prt n p) (hq : Prt n q) : Wov n p q ↔ ((p.length : Int) + q.length = n ∧ maskN p ||| maskN q = 2 ^ n.toNat - 1) := by
  have h3 := hp.1
  have key : Wov n p q ↔ ∀ j : Nat, (j : Int) < n → ((j : Int) ∈ p ↔ (j : Int) ∉ q) := by
    rw [← xor_full hp hq]
    exact ⟨fun h => h.2.2, fun h => ⟨hp, hq, h⟩⟩
  rw [key, or_full hp hq]
  have bp := hp.2.2.1
  have bq := hq.2.2.1
  obtain ⟨m, rfl⟩ : ∃ m : Nat, n = m := ⟨n.toNat, by omega⟩
  have hin : ∀ x ∈ p ++ q, 0 ≤ x ∧ x < (m : Int) := fun x hx => by
    rcases List.mem_append.1 hx with h | h
    · exact bp.1 x h
    · exact bq.1 x h
  constructor
  · intro h
    have hd : (p ++ q).Nodup := by
      rw [List.nodup_append]
      refine ⟨bp.2, bq.2, fun a ha b hb e => ?_⟩
      subst e
      have hb2 := bp.1 a ha
      have := h a.toNat (by omega)
      rw [Int.toNat_of_nonneg hb2.1] at this
      exact this.1 ha hb
    have h1 := nodup_le m (p ++ q) hd hin
    have h2 : ∀ j : Nat, j < m → (j : Int) ∈ p ++ q := fun j hj => by
      rw [List.mem_append]
      by_cases hq : (j : Int) ∈ q
      · exact .inr hq
      · exact .inl ((h j (by omega)).2 hq)
    have h4 : m ≤ (p ++ q).length := by
      have hs : ((List.range m).map fun j : Nat => (j : Int)).Nodup := by
        rw [List.nodup_iff_pairwise_ne, List.pairwise_map]
        exact (List.nodup_iff_pairwise_ne.1 List.nodup_range).imp (fun hne e => hne (by omega))
      have := hs.length_le_of_subset (l₂ := p ++ q) (fun x hx => by
        obtain ⟨j, hj, rfl⟩ := List.mem_map.1 hx
        exact h2 j (List.mem_range.1 hj))
      simpa using this
    rw [List.length_append] at h1 h4
    refine ⟨by omega, fun j hj => ?_⟩
    have := h2 j (by omega)
    rwa [List.mem_append] at this
  · rintro ⟨hl, h⟩ j hj
    refine ⟨fun h1 h2 => ?_, fun h2 => (h j hj).resolve_right h2⟩
    -- the point j twice: the others would have to fill one place less
    have hcov : ∀ i : Nat, i < m → (i : Int) ∈ p ++ q.erase (j : Int) := fun i hi => by
      rw [List.mem_append]
      by_cases e : (i : Int) = j
      · left; rw [e]; exact h1
      · rcases h i (by omega) with h5 | h5
        · exact .inl h5
        · exact .inr ((List.mem_erase_of_ne e).2 h5)
    have hs : ((List.range m).map fun i : Nat => (i : Int)).Nodup := by
      rw [List.nodup_iff_pairwise_ne, List.pairwise_map]
      exact (List.nodup_iff_pairwise_ne.1 List.nodup_range).imp (fun hne e => hne (by omega))
    have := hs.length_le_of_subset (l₂ := p ++ q.erase (j : Int)) (fun x hx => by
      obtain ⟨i, hi, rfl⟩ := List.mem_map.1 hx
      exact hcov i (List.mem_range.1 hi))
    rw [List.length_append, List.length_erase_of_mem h2] at this
    simp at this
    have hql : 0 < q.length := List.length_pos_of_mem h2
    omega

theorem lst_two (n : Int) (p q : List Int) (h36 : 3 ≤ n ∧ n ≤ 6) : Lst n [p, q] ↔ Prt n p ∧ Prt n q := by
  unfold Lst
  simp
  intro _ _
  exact h36
theorem wov_lst {n : Int} {p q : List Int} (h : Wov n p q) : Lst n [p, q] := (lst_two n p q h.1.1).2 ⟨h.1, h.2.1⟩
theorem rds_pair (w : World) (H : Nat) (Ap Aq : Option Addr) (np nq cp cq : Nat) (p q : List Int) (hp : Rd w H Ap np p) (hq : Rd w H Aq nq q) (hH : H ≤ w.heap.size) (hpc : np ≤ cp) (hpm : cp ≤ 9223372036854775807) (hqc : nq ≤ cq) (hqm : cq ≤ 9223372036854775807) :
    RdS (w.alloc (.cells #[.slice Ap np cp, .slice Aq nq cq] 23)) (w.heap.size + 1) (some ⟨w.heap.size, 0, none⟩) 2 [p, q] := by
  have hb : Below w.heap.size w (w.alloc (.cells #[.slice Ap np cp, .slice Aq nq cq] 23)) := (Below.refl _ _).alloc (Nat.le_refl _) _
  refine ⟨rfl, fun _ => ⟨w.heap.size, 0, rfl, by omega, fun k hk => ?_⟩⟩
  obtain rfl | rfl : k = 0 ∨ k = 1 := by omega
  · refine ⟨Ap, cp, ?_, ?_, by show p.length ≤ cp; rw [hp.len]; exact hpc, hpm⟩
    · show _ = some (Value.slice Ap p.length cp)
      rw [hp.len, cell_of_row _ w.heap.size _ _ _ _ (heap_alloc_new w _)]
      rfl
    · show Rd _ _ Ap p.length p
      rw [hp.len]
      exact (hp.below (hb.mono hH)).more (by omega)
  · refine ⟨Aq, cq, ?_, ?_, by show q.length ≤ cq; rw [hq.len]; exact hqc, hqm⟩
    · show _ = some (Value.slice Aq q.length cq)
      rw [hq.len, cell_of_row _ w.heap.size _ _ _ _ (heap_alloc_new w _)]
      rfl
    · show Rd _ _ Aq q.length q
      rw [hq.len]
      exact (hq.below (hb.mono hH)).more (by omega)

theorem oRow_less {w : World} {B B' : Nat} {e : TypeId} {m k : Nat} {v : Value} {xs : List Value} (h : w.ownsRow B e m v k xs) (hB : B' ≤ B) : w.ownsRow B' e m v k xs := by
  refine ⟨h.1, ?_⟩
  rcases h.2 with e | ⟨g, cap, cur, e, hg, rest⟩
  · exact .inl e
  · exact .inr ⟨g, cap, cur, e, by omega, rest⟩
def wovL (n : Int) (p q : List Int) : List (List Int) := if Wov n p q then [p, q] else []
theorem wovL_yes {n : Int} {p q : List Int} (h : Wov n p q) : wovL n p q = [p, q] := by rw [wovL, if_pos h]
theorem wovL_no {n : Int} {p q : List Int} (h : ¬ Wov n p q) : wovL n p q = [] := by rw [wovL, if_neg h]

end Go.Proofs.YtgojojoanhilnaaDoor
