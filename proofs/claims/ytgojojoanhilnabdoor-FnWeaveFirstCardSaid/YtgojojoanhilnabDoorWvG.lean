/- Two parts that have each point in one of them: the program's reading, the model's check. -/
import Derived.Test.YtgojojoanhilnabDoorWvF
import Derived.Test.YtgojojoanhilnabDoorMA
namespace Go.Proofs.YtgojojoanhilnabDoor
open Go.ChangeShapes Go.WideShapes Go.ChangeAt Go.RowKit

/-- Whether two lists are parts of n points that have each point in just one of them. -/
def Wov (n : Int) (p q : List Int) : Prop := Prt n p ∧ Prt n q ∧ maskN p ^^^ maskN q = 2 ^ n.toNat - 1
instance (n : Int) (p q : List Int) : Decidable (Wov n p q) := by unfold Wov; infer_instance
def wov (n : Int) (p q : List Int) : Bool := decide (Wov n p q)
theorem wov_yes {n : Int} {p q : List Int} (h : Wov n p q) : wov n p q = true := by simpa [wov] using h
theorem wov_no {n : Int} {p q : List Int} (h : ¬ Wov n p q) : wov n p q = false := by simpa [wov] using h

theorem mask_fits {n : Int} {p : List Int} (h : Prt n p) (j : Nat) (hj : n ≤ j) : (maskN p).testBit j = false := by
  have := mask_bit p (fun x hx => (h.bd x hx).1) j 0
  rw [show maskN p = (p.foldl (fun s x => s ||| 2 ^ x.toNat) 0) from rfl, this]
  simp only [Nat.zero_testBit, Bool.false_or, decide_eq_false_iff_not]
  intro hm
  have := h.2.2.1.1 _ hm
  omega
theorem mask_at {n : Int} {p : List Int} (h : Prt n p) (j : Nat) : (maskN p).testBit j = decide ((j : Int) ∈ p) := by
  have := mask_bit p (fun x hx => (h.bd x hx).1) j 0
  rw [show maskN p = (p.foldl (fun s x => s ||| 2 ^ x.toNat) 0) from rfl, this]
  simp
/-- Each point is in just one of the two. -/
theorem xor_full {n : Int} {p q : List Int} (hp : Prt n p) (hq : Prt n q) : maskN p ^^^ maskN q = 2 ^ n.toNat - 1 ↔ ∀ j : Nat, (j : Int) < n → ((j : Int) ∈ p ↔ (j : Int) ∉ q) := by
  have h3 := hp.1
  constructor
  · intro e j hj
    have := congrArg (fun s => s.testBit j) e
    simp only [Nat.testBit_xor, mask_at hp, mask_at hq, Nat.testBit_two_pow_sub_one] at this
    have hj' : decide (j < n.toNat) = true := by simp; omega
    rw [hj'] at this
    by_cases h1 : (j : Int) ∈ p <;> by_cases h2 : (j : Int) ∈ q <;> simp_all
  · intro h
    apply Nat.eq_of_testBit_eq
    intro j
    simp only [Nat.testBit_xor, mask_at hp, mask_at hq, Nat.testBit_two_pow_sub_one]
    by_cases hj : (j : Int) < n
    · have hj' : decide (j < n.toNat) = true := by simp; omega
      rw [hj']
      have := h j hj
      by_cases h1 : (j : Int) ∈ p <;> by_cases h2 : (j : Int) ∈ q <;> simp_all
    · have hj' : decide (j < n.toNat) = false := by simp; omega
      have h1 : (j : Int) ∉ p := fun hm => by have := hp.2.2.1.1 _ hm; omega
      have h2 : (j : Int) ∉ q := fun hm => by have := hq.2.2.1.1 _ hm; omega
      rw [hj', decide_eq_false h1, decide_eq_false h2]; rfl
theorem or_full {n : Int} {p q : List Int} (hp : Prt n p) (hq : Prt n q) : maskN p ||| maskN q = 2 ^ n.toNat - 1 ↔ ∀ j : Nat, (j : Int) < n → ((j : Int) ∈ p ∨ (j : Int) ∈ q) := by
  have h3 := hp.1
  constructor
  · intro e j hj
    have := congrArg (fun s => s.testBit j) e
    simp only [Nat.testBit_or, mask_at hp, mask_at hq, Nat.testBit_two_pow_sub_one] at this
    have hj' : decide (j < n.toNat) = true := by simp; omega
    rw [hj'] at this
    by_cases h1 : (j : Int) ∈ p <;> by_cases h2 : (j : Int) ∈ q <;> simp_all
  · intro h
    apply Nat.eq_of_testBit_eq
    intro j
    simp only [Nat.testBit_or, mask_at hp, mask_at hq, Nat.testBit_two_pow_sub_one]
    by_cases hj : (j : Int) < n
    · have hj' : decide (j < n.toNat) = true := by simp; omega
      rw [hj']
      have := h j hj
      by_cases h1 : (j : Int) ∈ p <;> by_cases h2 : (j : Int) ∈ q <;> simp_all
    · have hj' : decide (j < n.toNat) = false := by simp; omega
      have h1 : (j : Int) ∉ p := fun hm => by have := hp.2.2.1.1 _ hm; omega
      have h2 : (j : Int) ∉ q := fun hm => by have := hq.2.2.1.1 _ hm; omega
      rw [hj', decide_eq_false h1, decide_eq_false h2]; rfl
theorem nodup_all {n : Nat} {l : List Int} (hd : l.Nodup) (hin : ∀ x ∈ l, 0 ≤ x ∧ x < n) (hl : n ≤ l.length) (j : Nat) (hj : j < n) : (j : Int) ∈ l := by
  have h1 := nodup_le n l hd hin
  have e : l.length = n := by omega
  exact all_in l hd (fun x hx => by rw [e]; exact hin x hx) j (by omega)
/-- The model's way to ask it. -/
theorem wov_model {n : Int} {p q : List Int} (hp : Prt n p) (hq : Prt n q) : Wov n p q ↔ ((p.length : Int) + q.length = n ∧ maskN p ||| maskN q = 2 ^ n.toNat - 1) := by
  have h3 := hp.1
  have key : Wov n p q ↔ ∀ j : Nat, (j : Int) < n → ((j : Int) ∈ p ↔ (j : Int) ∉ q) := by
    rw [← xor_full hp hq]
    exact ⟨fun h => h.2.2, fun h => ⟨hp, hq, h⟩⟩
  rw [key, or_full hp hq]
  have bp := hp.2.2.1
  have bq := hq.2.2.1
  obtain ⟨m, rfl⟩ : ∃ m : Nat, n = m := ⟨n.toNat, by omega⟩
  have hin : ∀ x ∈ p ++ q, 0 ≤ x ∧ x < (m : Int) := fun x hx => by
    rcases List.mem_append.1 hx with h | h
    · exact bp.1 x h
    · exact bq.1 x h
  constructor
  · intro h
    have hd : (p ++ q).Nodup := by
      rw [List.nodup_append]
      refine ⟨bp.2, bq.2, fun a ha b hb e => ?_⟩
      subst e
      have hb2 := bp.1 a ha
      have := h a.toNat (by omega)
      rw [Int.toNat_of_nonneg hb2.1] at this
      exact this.1 ha hb
    have h1 := nodup_le m (p ++ q) hd hin
    have h2 : ∀ j : Nat, j < m → (j : Int) ∈ p ++ q := fun j hj => by
      rw [List.mem_append]
      by_cases hq : (j : Int) ∈ q
      · exact .inr hq
      · exact .inl ((h j (by omega)).2 hq)
    have h4 : m ≤ (p ++ q).length := by
      have hs : ((List.range m).map fun j : Nat => (j : Int)).Nodup := by
        rw [List.nodup_iff_pairwise_ne, List.pairwise_map]
        exact (List.nodup_iff_pairwise_ne.1 List.nodup_range).imp (fun hne e => hne (by omega))
      have := hs.length_le_of_subset (l₂ := p ++ q) (fun x hx => by
        obtain ⟨j, hj, rfl⟩ := List.mem_map.1 hx
        exact h2 j (List.mem_range.1 hj))
      simpa using this
    rw [List.length_append] at h1 h4
    refine ⟨by omega, fun j hj => ?_⟩
    have := h2 j (by omega)
    rwa [List.mem_append] at this
  · rintro ⟨hl, h⟩ j hj
    refine ⟨fun h1 h2 => ?_, fun h2 => (h j hj).resolve_right h2⟩
    -- the point j twice: the others would have to fill one place less
    have hcov : ∀ i : Nat, i < m → (i : Int) ∈ p ++ q.erase (j : Int) := fun i hi => by
      rw [List.mem_append]
      by_cases e : (i : Int) = j
      · left; rw [e]; exact h1
      · rcases h i (by omega) with h5 | h5
        · exact .inl h5
        · exact .inr ((List.mem_erase_of_ne e).2 h5)
    have hs : ((List.range m).map fun i : Nat => (i : Int)).Nodup := by
      rw [List.nodup_iff_pairwise_ne, List.pairwise_map]
      exact (List.nodup_iff_pairwise_ne.1 List.nodup_range).imp (fun hne e => hne (by omega))
    have := hs.length_le_of_subset (l₂ := p ++ q.erase (j : Int)) (fun x hx => by
      obtain ⟨i, hi, rfl⟩ := List.mem_map.1 hx
      exact hcov i (List.mem_range.1 hi))
    rw [List.length_append, List.length_erase_of_mem h2] at this
    simp at this
    have hql : 0 < q.length := List.length_pos_of_mem h2
    omega

theorem lst_two (n : Int) (p q : List Int) (h36 : 3 ≤ n ∧ n ≤ 6) : Lst n [p, q] ↔ Prt n p ∧ Prt n q := by
  unfold Lst
  simp
  intro _ _
  exact h36
theorem wov_lst {n : Int} {p q : List Int} (h : Wov n p q) : Lst n [p, q] := (lst_two n p q h.1.1).2 ⟨h.1, h.2.1⟩
theorem rds_pair (w : World) (H : Nat) (Ap Aq : Option Addr) (np nq cp cq : Nat) (p q : List Int) (hp : Rd w H Ap np p) (hq : Rd w H Aq nq q) (hH : H ≤ w.heap.size) (hpc : np ≤ cp) (hpm : cp ≤ 9223372036854775807) (hqc : nq ≤ cq) (hqm : cq ≤ 9223372036854775807) :
    RdS (w.alloc (.cells #[.slice Ap np cp, .slice Aq nq cq] 26)) (w.heap.size + 1) (some ⟨w.heap.size, 0, none⟩) 2 [p, q] := by
  have hb : Below w.heap.size w (w.alloc (.cells #[.slice Ap np cp, .slice Aq nq cq] 26)) := (Below.refl _ _).alloc (Nat.le_refl _) _
  refine ⟨rfl, fun _ => ⟨w.heap.size, 0, rfl, by omega, fun k hk => ?_⟩⟩
  obtain rfl | rfl : k = 0 ∨ k = 1 := by omega
  · refine ⟨Ap, cp, ?_, ?_, by show p.length ≤ cp; rw [hp.len]; exact hpc, hpm⟩
    · show _ = some (Value.slice Ap p.length cp)
      rw [hp.len, cell_of_row _ w.heap.size _ _ _ _ (heap_alloc_new w _)]
      rfl
    · show Rd _ _ Ap p.length p
      rw [hp.len]
      exact (hp.below (hb.mono hH)).more (by omega)
  · refine ⟨Aq, cq, ?_, ?_, by show q.length ≤ cq; rw [hq.len]; exact hqc, hqm⟩
    · show _ = some (Value.slice Aq q.length cq)
      rw [hq.len, cell_of_row _ w.heap.size _ _ _ _ (heap_alloc_new w _)]
      rfl
    · show Rd _ _ Aq q.length q
      rw [hq.len]
      exact (hq.below (hb.mono hH)).more (by omega)

theorem oRow_less {w : World} {B B' : Nat} {e : TypeId} {m k : Nat} {v : Value} {xs : List Value} (h : w.ownsRow B e m v k xs) (hB : B' ≤ B) : w.ownsRow B' e m v k xs := by
  refine ⟨h.1, ?_⟩
  rcases h.2 with e | ⟨g, cap, cur, e, hg, rest⟩
  · exact .inl e
  · exact .inr ⟨g, cap, cur, e, by omega, rest⟩
def wovL (n : Int) (p q : List Int) : List (List Int) := if Wov n p q then [p, q] else []
theorem wovL_yes {n : Int} {p q : List Int} (h : Wov n p q) : wovL n p q = [p, q] := by rw [wovL, if_pos h]
theorem wovL_no {n : Int} {p q : List Int} (h : ¬ Wov n p q) : wovL n p q = [] := by rw [wovL, if_neg h]

set_option maxRecDepth 10000 in
set_option maxHeartbeats 2000000 in
theorem readWoven_any (Ap Aq : Option Addr) (np cp nq cq H : Nat) (n : Int) (p q : List Int) (w : World) (hp : Rd w H Ap np p) (hq : Rd w H Aq nq q) (hH : H ≤ w.heap.size) (hpn : np ≤ 1048576) (hqn : nq ≤ 1048576) (hpc : np ≤ cp) (hpm : cp ≤ 9223372036854775807) (hqc : nq ≤ cq) (hqm : cq ≤ 9223372036854775807) :
    Calls Tryd.prog 31 #[.int .i64 n, .slice Ap np cp, .slice Aq nq cq] w fun e w' => ∃ v, e = .returned (.tuple #[v, .bool (wov n p q)]) ∧ PrtS w' w.heap.size v (wovL n p q) ∧ Below w.heap.size w w' := by
  have HPL := Lib.hid hp.len
  have HQL := Lib.hid hq.len
  obtain ⟨W0, h0⟩ : ∃ W, W = w.alloc (.cells #[.slice Ap np cp, .slice Aq nq cq] 26) := ⟨_, rfl⟩
  have hr0 : RdS W0 (w.heap.size + 1) (some ⟨w.heap.size, 0, none⟩) 2 [p, q] := by rw [h0]; exact rds_pair w H Ap Aq np nq cp cq p q hp hq hH hpc hpm hqc hqm
  have hs0 : W0.heap.size = w.heap.size + 1 := by rw [h0]; simp
  have HB0 : Hid (Below w.heap.size w W0) := by rw [h0]; exact (Below.refl _ _).alloc (Nat.le_refl _) _
  have HC := Lib.hid (readParts_any _ 2 2 _ [p, q] n W0 hr0 (by omega) (by omega) (fun k hk => by
    obtain rfl | rfl : k = 0 ∨ k = 1 := by omega
    · show p.length ≤ _; rw [HPL.out]; exact hpn
    · show q.length ≤ _; rw [HQL.out]; exact hqn))
  have HS0 := Lib.hid hs0
  clear hr0 hp hq hs0
  by_cases hl : Lst n [p, q]
  · have hpq := (lst_two n p q hl.1).1 hl
    have h36 := hl.1
    rw [(lst_yes hl).1, (lst_yes hl).2] at HC
    have HBP := Lib.hid hpq.1.bd
    have HBQ := Lib.hid hpq.2.bd
    have hmp := mask_lt p hpq.1.bd
    have hmq := mask_lt q hpq.2.bd
    obtain ⟨N, hN⟩ : ∃ N : Nat, n = N := ⟨n.toNat, by omega⟩
    have hx := xor_small (maskN p) (maskN q) hmp hmq
    have HW : Hid (wov n p q = decide (maskN p ^^^ maskN q = 2 ^ N - 1)) := by
      have e : n.toNat = N := by omega
      rw [Hid, wov, decide_eq_decide, Wov, e]
      exact ⟨fun h => h.2.2, fun h => ⟨hpq.1, hpq.2, h⟩⟩
    have HFS := Lib.hid (fun W => flipW (fullSet_any N W (by omega)))
    rw [← hN] at HFS
    have hpow : 1 ≤ 2 ^ N := Nat.one_le_two_pow
    have HLP := Lib.hid hpq.1.len
    have HLQ := Lib.hid hpq.2.len
    have HWL : Hid (wovL n p q = if wov n p q = true then [p, q] else []) := by
      unfold wovL wov; simp [Hid]
    clear hl hpq h36 hmp hmq hN hpow
    go_enter Tryd.func31, Tryd.ntmps31
    go_wp2_with fail
    rw [← h0]
    clear h0
    refine HC.out.mono ?_
    rintro e w1 ⟨v1, rfl, hp1, hb1⟩
    obtain ⟨A1, c1, rfl, _⟩ := hp1.slice
    have hrd := hp1.rd.2
    obtain ⟨b, o, e1, hbH, hcs⟩ := hrd.at_ (by simp)
    subst e1
    obtain ⟨A2, d2, hc0, hr2, _, _⟩ := hcs 0 (by simp)
    obtain ⟨A3, d3, hc1, hr3, _, _⟩ := hcs 1 (by simp)
    rw [Nat.add_zero] at hc0
    have HRP := Lib.hid (show Rd w1 w1.heap.size A2 p.length p from hr2)
    have HRQ := Lib.hid (show Rd w1 w1.heap.size A3 q.length q from hr3)
    replace hc0 : w1.cell? ⟨b, o, none⟩ = some (.slice A2 p.length d2) := hc0
    replace hc1 : w1.cell? ⟨b, o + 1, none⟩ = some (.slice A3 q.length d3) := hc1
    have HSP := Lib.hid (fun k => flipW (setOf_any A2 p.length d2 _ p (w1.drewN k) (HRP.out.drewN k) (by have := HLP.out; omega) HBP.out))
    have HSQ := Lib.hid (fun k => flipW (setOf_any A3 q.length d3 _ q (w1.drewN k) (HRQ.out.drewN k) (by have := HLQ.out; omega) HBQ.out))
    have HP1 := Lib.hid hp1
    have HB1 := Lib.hid (HB0.out.trans (hb1.mono (by rw [HS0.out]; omega)))
    clear hcs hr2 hr3 hrd hp1 hb1 HC
    cases hd : decide (maskN p ^^^ maskN q = 2 ^ N - 1) with
    | true =>
      have hne : (((maskN p ^^^ maskN q : Nat) : Int) != ((2 ^ N - 1 : Nat) : Int)) = false := by
        simp only [decide_eq_true_eq] at hd
        rw [hd]; simp
      rw [← hx] at hne
      rw [hd] at HW
      rw [HW.out, if_pos rfl] at HWL
      clear hd hx
      generalize maskN p = s at *
      generalize maskN q = t at *
      generalize 2 ^ N - 1 = f at *
      go_wp2
      go_quiet (first | (go_at_call_of 59 (Value.slice A2 p.length d2); refine Calls.quiet_of_same (HSP.out _)) | (go_at_call_of 59 (Value.slice A3 q.length d3); refine Calls.quiet_of_same (HSQ.out _)) | (go_at_call 62; refine Calls.quiet_of_same (HFS.out _)))
      go_wp2
      go_ret2
      refine ⟨_, by rw [HW.out]; rfl, ?_, below_drewN HB1.out _⟩
      rw [HWL.out]
      obtain ⟨xs, x1, x2⟩ := HP1.out
      exact ⟨xs, oRow_less x1 (by rw [HS0.out]; omega), fun k hk => by
        obtain ⟨vk, a1, a2⟩ := x2 k hk
        exact ⟨vk, a1, a2.less (by rw [HS0.out]; omega)⟩⟩
    | false =>
      have hne : (((maskN p ^^^ maskN q : Nat) : Int) != ((2 ^ N - 1 : Nat) : Int)) = true := by
        simp only [decide_eq_false_iff_not] at hd
        simp only [bne_iff_ne, ne_eq]
        intro e
        exact hd (by exact_mod_cast e)
      rw [← hx] at hne
      rw [hd] at HW
      rw [HW.out, if_neg (by simp)] at HWL
      clear hd hx HP1
      generalize maskN p = s at *
      generalize maskN q = t at *
      generalize 2 ^ N - 1 = f at *
      go_wp2
      go_quiet (first | (go_at_call_of 59 (Value.slice A2 p.length d2); refine Calls.quiet_of_same (HSP.out _)) | (go_at_call_of 59 (Value.slice A3 q.length d3); refine Calls.quiet_of_same (HSQ.out _)) | (go_at_call 62; refine Calls.quiet_of_same (HFS.out _)))
      go_wp2
      go_ret2
      refine ⟨_, by rw [HW.out]; rfl, ?_, below_drewN HB1.out _⟩
      rw [HWL.out]
      exact PrtS.nil _ _
  · have HW := Lib.hid (wov_no (n := n) (p := p) (q := q) (fun h => hl (wov_lst h)))
    have HWL := Lib.hid (wovL_no (n := n) (p := p) (q := q) (fun h => hl (wov_lst h)))
    rw [(lst_no hl).1, (lst_no hl).2] at HC
    clear hl
    go_enter Tryd.func31, Tryd.ntmps31
    go_wp2_with fail
    rw [← h0]
    clear h0
    refine HC.out.mono ?_
    rintro e w1 ⟨v1, rfl, hp1, hb1⟩
    obtain ⟨A1, c1, rfl, _⟩ := hp1.slice
    have HB1 := Lib.hid (HB0.out.trans (hb1.mono (by rw [HS0.out]; omega)))
    clear hp1 hb1 HC
    go_wp2
    go_quiet (fail)
    go_wp2
    go_ret2
    refine ⟨_, by rw [HW.out]; rfl, ?_, below_drewN HB1.out _⟩
    rw [HWL.out]
    exact PrtS.nil _ _
end Go.Proofs.YtgojojoanhilnabDoor
