/- Windings: what they add up to; falls; windings of rings gone the other way. -/
import Derived.Test.YtbfdbnminjhocaaWdI
import Derived.Test.YtbfdbnminjhocaaMB
import Derived.Test.YtbfdbnminjhocaaAllR
import Derived.Test.YtbfdbnminjhocaaRingM
namespace Go.Proofs.Ytbfdbnminjhocaa
open Go.ChangeShapes Go.WideShapes Go.ChangeAt Go.RowKit

theorem W2.idx {l0 l1 : List Int} (h : W2 l0 l1) {i : Nat} (hi : i < l0.length) : l1.idxOf (l0.getD i 0) < l0.length := by
  rw [h.len]; exact List.idxOf_lt_length_of_mem (h.mem _ (getD_mem _ _ hi))
theorem W2.apart {l0 l1 : List Int} (h : W2 l0 l1) {i j : Nat} (hi : i < l0.length) (hj : j < l0.length) (hij : i ≠ j) : l1.idxOf (l0.getD i 0) ≠ l1.idxOf (l0.getD j 0) := fun e => by
  have h1 := List.getElem_idxOf (List.idxOf_lt_length_of_mem (h.mem _ (getD_mem l0 i hi)))
  have h2 := List.getElem_idxOf (List.idxOf_lt_length_of_mem (h.mem _ (getD_mem l0 j hj)))
  have e2 : l0.getD i 0 = l0.getD j 0 := by rw [← h1, ← h2]; simp only [e]
  have h3 := idxAt h.t0.2.2.2 hi
  have h4 := idxAt h.t0.2.2.2 hj
  rw [e2] at h3
  omega
theorem succ_ne {i n : Nat} (hn : 2 ≤ n) (hi : i < n) : (i + 1) % n ≠ i := by
  by_cases h : i + 1 = n
  · rw [h, Nat.mod_self]; omega
  · rw [Nat.mod_eq_of_lt (by omega)]; omega

/-- Where the i-th point of l0 stands in l1. -/
def posN (l0 l1 : List Int) (i : Nat) : Int := (l1.idxOf (l0.getD i 0) : Int)
theorem stepN_pos {l0 l1 : List Int} (h : W2 l0 l1) (i : Nat) : stepN l0 l1 i = (posN l0 l1 ((i + 1) % l0.length) - posN l0 l1 i) % (l0.length : Int) := by
  unfold stepN stepsI posN; rw [h.len]
theorem wind_sum {l0 l1 : List Int} (h : W2 l0 l1) : sumN (stepN l0 l1) l0.length = (l0.length : Int) * windL l0 l1 ∧ windL l0 l1 = - sumN (fun i => (posN l0 l1 ((i + 1) % l0.length) - posN l0 l1 i) / (l0.length : Int)) l0.length := by
  have h3 := h.t0.1
  have e1 : sumN (stepN l0 l1) l0.length = sumN (fun i => (posN l0 l1 ((i + 1) % l0.length) - posN l0 l1 i) + (l0.length : Int) * (-1 * ((posN l0 l1 ((i + 1) % l0.length) - posN l0 l1 i) / (l0.length : Int)))) l0.length := by
    refine sumN_congr _ fun i _ => ?_
    rw [stepN_pos h, Int.emod_def, Int.mul_comm (-1 : Int), Int.mul_neg_one, Int.mul_neg]
    omega
  rw [sumN_add, sumN_round _ _ (by omega), Int.zero_add, sumN_mul, sumN_mul] at e1
  have e2 : windL l0 l1 = - sumN (fun i => (posN l0 l1 ((i + 1) % l0.length) - posN l0 l1 i) / (l0.length : Int)) l0.length := by
    unfold windL
    rw [e1, Int.mul_ediv_cancel_left _ (by omega)]
    omega
  exact ⟨by rw [e1, e2]; congr 1; omega, e2⟩
theorem step_ge {l0 l1 : List Int} (h : W2 l0 l1) {i : Nat} (hi : i < l0.length) : 1 ≤ stepN l0 l1 i := by
  have h3 := h.t0.1
  have hm : (i + 1) % l0.length < l0.length := Nat.mod_lt _ (by omega)
  have h1 := h.idx hi
  have h2 := h.idx hm
  have h4 := h.apart hi hm (fun e => succ_ne (by omega) hi e.symm)
  have h0 := (stepN_bd l0 l1 (by have := h.t1.1; omega) i).1
  rw [stepN_pos h] at h0 ⊢
  unfold posN at h0 ⊢
  generalize l1.idxOf (l0.getD i 0) = p at *
  generalize l1.idxOf (l0.getD ((i + 1) % l0.length) 0) = q at *
  rcases Nat.lt_or_ge p q with hpq | hpq
  · rw [Int.emod_eq_of_lt (by omega) (by omega)]; omega
  · rw [← Int.add_emod_right, Int.emod_eq_of_lt (by omega) (by omega)]; omega
theorem wind_ge {l0 l1 : List Int} (h : W2 l0 l1) : 1 ≤ windL l0 l1 := by
  have h3 := h.t0.1
  have hb := (sumN_bd (f := stepN l0 l1) (a := 1) (b := 7) l0.length (fun i hi => ⟨step_ge h hi, by have := (stepN_bd6 l0 l1 h i).2; omega⟩)).1
  rw [(wind_sum h).1] at hb
  rcases Int.lt_or_le (windL l0 l1) 1 with hlt | hge
  · exfalso
    have : (l0.length : Int) * windL l0 l1 ≤ (l0.length : Int) * 0 := Int.mul_le_mul_of_nonneg_left (by omega) (by omega)
    omega
  · exact hge

/-- The points in order. -/
theorem takeBy_zero : ∀ (m : Nat) (left : List Int), m ≤ 7 → left.length = m → takeBy m left 0 = left
  | 0, left, _, hl => by rw [List.eq_nil_of_length_eq_zero hl]; rfl
  | m + 1, left, hm, hl => by
    obtain ⟨x, rest, rfl⟩ : ∃ x rest, left = x :: rest := by
      cases left with
      | nil => simp at hl
      | cons x rest => exact ⟨x, rest, rfl⟩
    rw [takeBy]
    simp only [Int.zero_ediv, Int.zero_emod, Int.toNat_zero, List.eraseIdx_cons_zero, List.getD_cons_zero]
    rw [takeBy_zero m rest (by omega) (by simpa using hl)]
theorem byL_zero (n : Nat) (h7 : n ≤ 7) : byL n 0 = upFrom 0 n := takeBy_zero n _ h7 (by simp)
theorem upFrom_idx (n i : Nat) (hi : i < n) : (upFrom 0 n).idxOf (i : Int) = i := by
  have hnd : (upFrom 0 n).Nodup := by
    unfold upFrom List.Nodup
    rw [List.pairwise_map]
    exact List.Pairwise.imp (fun h e => by omega) List.pairwise_lt_range
  have e : (upFrom 0 n).getD i 0 = (i : Int) := by rw [upFrom_get 0 n i hi]; omega
  have := idxAt hnd (i := i) (by simpa using hi)
  rwa [e] at this
theorem wind_falls {l : List Int} (h : W2 l (upFrom 0 l.length)) : windL l (upFrom 0 l.length) = fallsL l := by
  have h3 := h.t0.1
  have hp : ∀ i, i < l.length → posN l (upFrom 0 l.length) i = l.getD i 0 ∧ 0 ≤ l.getD i 0 ∧ l.getD i 0 < l.length := fun i hi => by
    have hb := h.t0.2.2.1 _ (getD_mem l i hi)
    refine ⟨?_, hb⟩
    have e := upFrom_idx l.length (l.getD i 0).toNat (by omega)
    rw [Int.toNat_of_nonneg hb.1] at e
    unfold posN
    rw [e, Int.toNat_of_nonneg hb.1]
  rw [(wind_sum h).2, fallsL]
  have e : sumN (fun i => (posN l (upFrom 0 l.length) ((i + 1) % l.length) - posN l (upFrom 0 l.length) i) / (l.length : Int)) l.length = sumN (fun i => -1 * fallsN l i) l.length := by
    refine sumN_congr _ fun i hi => ?_
    obtain ⟨e1, b1, b2⟩ := hp i hi
    obtain ⟨e2, c1, c2⟩ := hp ((i + 1) % l.length) (Nat.mod_lt _ (by omega))
    rw [e1, e2, fallsN]
    generalize l.getD i 0 = x at *
    generalize l.getD ((i + 1) % l.length) 0 = y at *
    split
    · have : (y - x) / (l.length : Int) = -1 := by
        rw [Int.ediv_eq_iff_of_pos (by omega)]
        omega
      rw [this]; rfl
    · rw [Int.ediv_eq_zero_of_lt (by omega) (by omega)]; rfl
  rw [e, sumN_mul]
  omega

theorem wind_of_sum {l0 l1 : List Int} (h1 : 1 ≤ l0.length) {c : Int} (h : sumN (stepN l0 l1) l0.length = (l0.length : Int) * c) : windL l0 l1 = c := by
  unfold windL
  rw [h, Int.mul_ediv_cancel_left _ (by omega)]
theorem sum_minus {l0 l1 : List Int} (h : W2 l0 l1) (f : Nat → Int) (hf : ∀ i, i < l0.length → f i = (l0.length : Int) - stepN l0 l1 i) : sumN f l0.length = (l0.length : Int) * ((l0.length : Int) - windL l0 l1) := by
  have e : sumN f l0.length = sumN (fun i => (l0.length : Int) + -1 * stepN l0 l1 i) l0.length := sumN_congr _ fun i hi => by rw [hf i hi]; omega
  rw [e, sumN_add, sumN_const, sumN_mul, (wind_sum h).1, Int.mul_sub]
  omega
/-- Windings by the ring gone the other way. -/
theorem wind_by_back {l0 l1 : List Int} (h : W2 l0 l1) : windL l0 (backL l1) = (l0.length : Int) - windL l0 l1 := by
  have h3 := h.t0.1
  refine wind_of_sum (by omega) (sum_minus h _ fun i hi => ?_)
  have hm : (i + 1) % l0.length < l0.length := Nat.mod_lt _ (by omega)
  unfold stepN
  rw [steps_backL h.t1 (h.mem _ (getD_mem _ _ hi)) (h.mem _ (getD_mem _ _ hm)) (h.apart hi hm (fun e => succ_ne (by omega) hi e.symm)), ← h.len]
/-- Windings of the ring gone the other way. -/
theorem wind_back {l0 l1 : List Int} (h : W2 l0 l1) : windL (backL l0) l1 = (l0.length : Int) - windL l0 l1 := by
  have h3 := h.t0.1
  refine wind_of_sum (by rw [backL_length]; omega) ?_
  rw [backL_length, ← sumN_rev]
  refine sum_minus h _ fun k hk => ?_
  have hm : (k + 1) % l0.length < l0.length := Nat.mod_lt _ (by omega)
  unfold stepN
  rw [backL_length, backL_get l0 _ (by omega), backL_get l0 _ (Nat.mod_lt _ (by omega))]
  have e1 : (l0.length - (l0.length - 1 - k)) % l0.length = (k + 1) % l0.length := by congr 1; omega
  have e2 : (l0.length - (l0.length - 1 - k + 1) % l0.length) % l0.length = k := by
    rw [show l0.length - 1 - k + 1 = l0.length - k by omega]
    by_cases h0 : k = 0
    · rw [h0, Nat.sub_zero, Nat.mod_self, Nat.sub_zero, Nat.mod_self]
    · rw [Nat.mod_eq_of_lt (show l0.length - k < l0.length by omega), show l0.length - (l0.length - k) = k by omega, Nat.mod_eq_of_lt hk]
  rw [e1, e2, steps_back h.t1 (h.mem _ (getD_mem _ _ hk)) (h.mem _ (getD_mem _ _ hm)) (h.apart hk hm (fun e => succ_ne (by omega) hk e.symm)), ← h.len]
theorem sumN_ones {f : Nat → Int} : ∀ n, (∀ i, i < n → 1 ≤ f i) → sumN f n ≤ n → ∀ i, i < n → f i = 1
  | 0, _, _ => fun i hi => absurd hi (by omega)
  | n + 1, h, hs => by
    have h1 : (1 : Int) * n ≤ sumN f n := (sumN_bd (f := f) (a := 1) (b := 1 + sumN f n + sumN (fun i => f i * f i) n) n (fun i hi => ⟨h i (by omega), by
      have : ∀ m, (∀ j, j < m → 1 ≤ f j) → ∀ i, i < m → f i ≤ sumN f m := by
        intro m
        induction m with
        | zero => intro _ i hi; omega
        | succ m ih =>
          intro hj i hi
          rw [sumN]
          have hp : 0 ≤ sumN f m := by
            clear ih hi
            induction m with
            | zero => simp [sumN]
            | succ m ih => rw [sumN]; have := ih (fun j hj' => hj j (by omega)); have := hj m (by omega); omega
          rcases Nat.lt_or_ge i m with hlt | hge
          · have := ih (fun j hj' => hj j (by omega)) i hlt; have := hj m (by omega); omega
          · obtain rfl : i = m := by omega
            omega
      have hq : 0 ≤ sumN (fun i => f i * f i) n := by
        clear this hs hi
        induction n with
        | zero => simp [sumN]
        | succ n ih => rw [sumN]; have := ih (fun j hj' => h j (by omega)); have h2 := h n (by omega); have : 0 ≤ f n * f n := Int.mul_nonneg (by omega) (by omega); omega
      have := this n (fun j hj => h j (by omega)) i hi
      omega⟩)).1
    rw [sumN] at hs
    have h2 := h n (by omega)
    intro i hi
    rcases Nat.lt_or_ge i n with hlt | hge
    · exact sumN_ones n (fun j hj => h j (by omega)) (by omega) i hlt
    · obtain rfl : i = n := by omega
      omega
/-- A ring goes round another one once just if it is the same. -/
theorem wind_one {l0 l1 : List Int} (h : W2 l0 l1) (h0 : l0.getD 0 0 = 0) (h1 : l1.getD 0 0 = 0) : windL l0 l1 = 1 ↔ l0 = l1 := by
  have h3 := h.t0.1
  constructor
  · intro hw
    have hs := (wind_sum h).1
    rw [hw, Int.mul_one] at hs
    have h1s := sumN_ones (f := stepN l0 l1) l0.length (fun i hi => step_ge h hi) (by omega)
    have hp : ∀ i, i < l0.length → l1.idxOf (l0.getD i 0) = i := by
      intro i
      induction i with
      | zero =>
        intro hi
        rw [h0, ← h1]
        exact idxAt h.t1.2.2.2 (by have := h.len; omega)
      | succ i ih =>
        intro hi
        have e := ih (by omega)
        have e1 := h1s i (by omega)
        rw [stepN_pos h] at e1
        unfold posN at e1
        rw [e, Nat.mod_eq_of_lt hi] at e1
        have hb := h.idx hi
        generalize l1.idxOf (l0.getD (i + 1) 0) = q at *
        rcases Nat.lt_or_ge q i with hlt | hge
        · rw [← Int.add_emod_right, Int.emod_eq_of_lt (by omega) (by omega)] at e1; omega
        · rw [Int.emod_eq_of_lt (by omega) (by omega)] at e1; omega
    apply List.ext_getElem h.len
    intro i hi hi'
    have e := hp i hi
    have hm := h.mem _ (getD_mem l0 i hi)
    have := at_idx l1 _ hm
    rw [e] at this
    simpa [List.getD, hi, hi'] using this.symm
  · intro e
    subst e
    refine wind_of_sum (by omega) ?_
    have e : sumN (stepN l0 l0) l0.length = sumN (fun _ => 1) l0.length := sumN_congr _ fun i hi => by
      rw [stepN_pos h]
      unfold posN
      rw [idxAt h.t0.2.2.2 hi, idxAt h.t0.2.2.2 (Nat.mod_lt _ (by omega))]
      by_cases hl : i + 1 = l0.length
      · rw [hl, Nat.mod_self, ← Int.add_emod_right, Int.emod_eq_of_lt (by omega) (by omega)]; omega
      · rw [Nat.mod_eq_of_lt (by omega), Int.emod_eq_of_lt (by omega) (by omega)]; omega
    rw [e, sumN_const, Int.one_mul, Int.mul_one]
end Go.Proofs.Ytbfdbnminjhocaa
