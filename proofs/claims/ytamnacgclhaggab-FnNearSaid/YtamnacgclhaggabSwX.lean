/- Maths of swaps: which threes turn, swaps taken back. -/
import Derived.Test.YtamnacgclhaggabSdM
import Derived.Test.YtamnacgclhaggabSwT
import Derived.Test.YtamnacgclhaggabNamedM
namespace Go.Proofs.Ytamnacgclhaggab
open Go.ChangeShapes Go.WideShapes Go.ChangeAt Go.RowKit

def swF (i j p : Nat) : Nat := if p = i then j else if p = j then i else p
def bothP (i j a b c : Nat) : Bool := (decide (a = i) || decide (b = i) || decide (c = i)) && (decide (a = j) || decide (b = j) || decide (c = j))
theorem swF_cyc {n i j a b c : Nat} (h3 : 3 ≤ n) (hi : i < n) (hj : j = (i + 1) % n) (ha : a < n) (hb : b < n) (hc : c < n) (h1 : a ≠ b) (h2 : b ≠ c) (h4 : a ≠ c) : cyc (swF i j a) (swF i j b) (swF i j c) = if bothP i j a b c = true then !cyc a b c else cyc a b c := by
  have hjj : (j = i + 1 ∧ i + 1 < n) ∨ (j = 0 ∧ i + 1 = n) := by
    rcases Nat.lt_or_ge (i + 1) n with h | h
    · exact .inl ⟨by rw [hj, Nat.mod_eq_of_lt h], h⟩
    · have e : i + 1 = n := by omega
      exact .inr ⟨by rw [hj, e, Nat.mod_self], e⟩
  clear hj
  by_cases ai : a = i
  · by_cases bj : b = j
    · have e : bothP i j a b c = true := by simp [bothP, ai, bj]
      rw [if_pos e]
      have q1 : swF i j a = j := by rw [swF, if_pos ai]
      have q2 : swF i j b = i := by rw [swF, if_neg (by omega), if_pos bj]
      have q3 : swF i j c = c := by rw [swF, if_neg (by omega), if_neg (by omega)]
      rw [q1, q2, q3]
      rw [Bool.eq_iff_iff, Bool.not_eq_true', ← Bool.not_eq_true, cyc_iff, cyc_iff]
      omega
    · by_cases cj : c = j
      · have e : bothP i j a b c = true := by simp [bothP, ai, cj]
        rw [if_pos e]
        have q1 : swF i j a = j := by rw [swF, if_pos ai]
        have q2 : swF i j c = i := by rw [swF, if_neg (by omega), if_pos cj]
        have q3 : swF i j b = b := by rw [swF, if_neg (by omega), if_neg (by omega)]
        rw [q1, q2, q3]
        rw [Bool.eq_iff_iff, Bool.not_eq_true', ← Bool.not_eq_true, cyc_iff, cyc_iff]
        omega
      · have e : ¬ bothP i j a b c = true := by simp [bothP]; omega
        rw [if_neg e]
        have q1 : swF i j a = j := by rw [swF, if_pos ai]
        have q2 : swF i j b = b := by rw [swF, if_neg (by omega), if_neg (by omega)]
        have q3 : swF i j c = c := by rw [swF, if_neg (by omega), if_neg (by omega)]
        rw [q1, q2, q3]
        rw [Bool.eq_iff_iff, cyc_iff, cyc_iff]
        omega
  · by_cases bi : b = i
    · by_cases aj : a = j
      · have e : bothP i j a b c = true := by simp [bothP, bi, aj]
        rw [if_pos e]
        have q1 : swF i j b = j := by rw [swF, if_pos bi]
        have q2 : swF i j a = i := by rw [swF, if_neg (by omega), if_pos aj]
        have q3 : swF i j c = c := by rw [swF, if_neg (by omega), if_neg (by omega)]
        rw [q1, q2, q3]
        rw [Bool.eq_iff_iff, Bool.not_eq_true', ← Bool.not_eq_true, cyc_iff, cyc_iff]
        omega
      · by_cases cj : c = j
        · have e : bothP i j a b c = true := by simp [bothP, bi, cj]
          rw [if_pos e]
          have q1 : swF i j b = j := by rw [swF, if_pos bi]
          have q2 : swF i j c = i := by rw [swF, if_neg (by omega), if_pos cj]
          have q3 : swF i j a = a := by rw [swF, if_neg (by omega), if_neg (by omega)]
          rw [q1, q2, q3]
          rw [Bool.eq_iff_iff, Bool.not_eq_true', ← Bool.not_eq_true, cyc_iff, cyc_iff]
          omega
        · have e : ¬ bothP i j a b c = true := by simp [bothP]; omega
          rw [if_neg e]
          have q1 : swF i j b = j := by rw [swF, if_pos bi]
          have q2 : swF i j a = a := by rw [swF, if_neg (by omega), if_neg (by omega)]
          have q3 : swF i j c = c := by rw [swF, if_neg (by omega), if_neg (by omega)]
          rw [q1, q2, q3]
          rw [Bool.eq_iff_iff, cyc_iff, cyc_iff]
          omega
    · by_cases ci : c = i
      · by_cases aj : a = j
        · have e : bothP i j a b c = true := by simp [bothP, ci, aj]
          rw [if_pos e]
          have q1 : swF i j c = j := by rw [swF, if_pos ci]
          have q2 : swF i j a = i := by rw [swF, if_neg (by omega), if_pos aj]
          have q3 : swF i j b = b := by rw [swF, if_neg (by omega), if_neg (by omega)]
          rw [q1, q2, q3]
          rw [Bool.eq_iff_iff, Bool.not_eq_true', ← Bool.not_eq_true, cyc_iff, cyc_iff]
          omega
        · by_cases bj : b = j
          · have e : bothP i j a b c = true := by simp [bothP, ci, bj]
            rw [if_pos e]
            have q1 : swF i j c = j := by rw [swF, if_pos ci]
            have q2 : swF i j b = i := by rw [swF, if_neg (by omega), if_pos bj]
            have q3 : swF i j a = a := by rw [swF, if_neg (by omega), if_neg (by omega)]
            rw [q1, q2, q3]
            rw [Bool.eq_iff_iff, Bool.not_eq_true', ← Bool.not_eq_true, cyc_iff, cyc_iff]
            omega
          · have e : ¬ bothP i j a b c = true := by simp [bothP]; omega
            rw [if_neg e]
            have q1 : swF i j c = j := by rw [swF, if_pos ci]
            have q2 : swF i j a = a := by rw [swF, if_neg (by omega), if_neg (by omega)]
            have q3 : swF i j b = b := by rw [swF, if_neg (by omega), if_neg (by omega)]
            rw [q1, q2, q3]
            rw [Bool.eq_iff_iff, cyc_iff, cyc_iff]
            omega
      · have e : ¬ bothP i j a b c = true := by simp [bothP]; omega
        rw [if_neg e, Bool.eq_iff_iff, cyc_iff, cyc_iff]
        unfold swF
        rw [if_neg ai, if_neg bi, if_neg ci]
        split <;> split <;> split <;> omega
theorem get_idx {l : List Int} {x : Int} (hx : x ∈ l) : l.getD (l.idxOf x) 0 = x := by
  have hi := List.idxOf_lt_length_of_mem hx
  have := List.getElem_idxOf hi
  simp [List.getD, hi, this]
/-- The point behind one. -/
def nxt (l : List Int) (x : Int) : Int := l.getD ((l.idxOf x + 1) % l.length) 0
section
variable {l : List Int} {x : Int}
theorem nxt_mem (hr : Ring l) : nxt l x ∈ l := getD_mem l _ (Nat.mod_lt _ (by have := hr.1.1; omega))
theorem nxt_idx (hr : Ring l) : l.idxOf (nxt l x) = (l.idxOf x + 1) % l.length := idx_back hr.1.2.2.2 (Nat.mod_lt _ (by have := hr.1.1; omega))
theorem nxt_ne (hr : Ring l) (hx : x ∈ l) : nxt l x ≠ x := fun e => by
  have h := nxt_idx (x := x) hr
  rw [e] at h
  have hi := List.idxOf_lt_length_of_mem hx
  have h3 := hr.1.1
  rcases Nat.lt_or_ge (l.idxOf x + 1) l.length with hl | hl
  · rw [Nat.mod_eq_of_lt hl] at h; omega
  · rw [show l.idxOf x + 1 = l.length by omega, Nat.mod_self] at h; omega
theorem swp_place (hr : Ring l) (hx : x ∈ l) {a : Int} (ha : a ∈ l) : (swp l (l.idxOf x) ((l.idxOf x + 1) % l.length)).idxOf a = swF (l.idxOf x) ((l.idxOf x + 1) % l.length) (l.idxOf a) := by
  have h3 := hr.1.1
  have hi := List.idxOf_lt_length_of_mem hx
  have hk := List.idxOf_lt_length_of_mem ha
  have hj : (l.idxOf x + 1) % l.length < l.length := Nat.mod_lt _ (by omega)
  have hij : l.idxOf x ≠ (l.idxOf x + 1) % l.length := by
    rcases Nat.lt_or_ge (l.idxOf x + 1) l.length with hl | hl
    · rw [Nat.mod_eq_of_lt hl]; omega
    · rw [show l.idxOf x + 1 = l.length by omega, Nat.mod_self]; omega
  have ht := swp_tell hr.1 hi hj
  have ea := get_idx ha
  generalize l.idxOf x = i at *
  generalize (i + 1) % l.length = j at *
  generalize l.idxOf a = k at *
  have hk' : swF i j k < l.length := by unfold swF; split; exact hj; split; exact hi; exact hk
  have eg : (swp l i j).getD (swF i j k) 0 = a := by
    rw [swp_get l i j _ hi hj hk', ← ea]
    unfold swF
    by_cases h1 : k = i
    · rw [if_pos h1, if_pos rfl, h1]
    · rw [if_neg h1]
      by_cases h2 : k = j
      · rw [if_pos h2, if_neg hij, if_pos rfl, h2]
      · rw [if_neg h2, if_neg h2, if_neg h1]
  rw [← eg]
  exact idx_back ht.2.2.2 (by rw [swp_length]; exact hk')
theorem swap_ring (hr : Ring l) (hx : x ∈ l) : Ring (swapL l x) ∧ (swapL l x).length = l.length := ⟨swapL_ring hr.1 hx, by unfold swapL; rw [cutL_length, swp_length]⟩
theorem idx_nxt (hr : Ring l) {e : Int} (he : e ∈ l) : decide (e = nxt l x) = decide (l.idxOf e = (l.idxOf x + 1) % l.length) := by
  rw [decide_eq_decide, ← nxt_idx hr]
  constructor
  · rintro rfl; rfl
  · intro h
    rw [← get_idx he, h, get_idx (nxt_mem hr)]
theorem idx_same {e : Int} (he : e ∈ l) (hx : x ∈ l) : decide (e = x) = decide (l.idxOf e = l.idxOf x) := by
  rw [decide_eq_decide]
  constructor
  · rintro rfl; rfl
  · intro h
    rw [← get_idx he, h, get_idx hx]
/-- Which threes a swap turns, by places. -/
theorem swap_has3p (hr : Ring l) (hx : x ∈ l) {a b c : Int} (ha : a ∈ l) (hb : b ∈ l) (hc : c ∈ l) (h1 : a ≠ b) (h2 : b ≠ c) (h4 : a ≠ c) :
    has3 (swapL l x) [a, b, c] = if bothP (l.idxOf x) ((l.idxOf x + 1) % l.length) (l.idxOf a) (l.idxOf b) (l.idxOf c) = true then !has3 l [a, b, c] else has3 l [a, b, c] := by
  have h3 := hr.1.1
  have hi := List.idxOf_lt_length_of_mem hx
  have hj : (l.idxOf x + 1) % l.length < l.length := Nat.mod_lt _ (by omega)
  have ht := swp_tell hr.1 hi hj
  have ma := (swp_mem l _ _ hi hj a).2 ha
  have mb := (swp_mem l _ _ hi hj b).2 hb
  have mc := (swp_mem l _ _ hi hj c).2 hc
  have e0 : has3 (swapL l x) [a, b, c] = has3 (swp l (l.idxOf x) ((l.idxOf x + 1) % l.length)) [a, b, c] := by
    unfold has3 swapL
    simp only [List.getD_cons_zero, List.getD_cons_succ]
    rw [steps_cut ht ht.zero ma mb, steps_cut ht ht.zero ma mc]
  rw [e0, has3_cyc ma mb mc h1 h2 h4, swp_place hr hx ha, swp_place hr hx hb, swp_place hr hx hc, has3_cyc ha hb hc h1 h2 h4]
  exact swF_cyc h3 hi rfl (List.idxOf_lt_length_of_mem ha) (List.idxOf_lt_length_of_mem hb) (List.idxOf_lt_length_of_mem hc) (idx_apart ha hb h1) (idx_apart hb hc h2) (idx_apart ha hc h4)
/-- Which threes a swap turns. -/
theorem swap_has3 (hr : Ring l) (hx : x ∈ l) {a b c : Int} (ha : a ∈ l) (hb : b ∈ l) (hc : c ∈ l) (h1 : a ≠ b) (h2 : b ≠ c) (h4 : a ≠ c) :
    has3 (swapL l x) [a, b, c] = if (decide (a = x) || decide (b = x) || decide (c = x)) && (decide (a = nxt l x) || decide (b = nxt l x) || decide (c = nxt l x)) then !has3 l [a, b, c] else has3 l [a, b, c] := by
  rw [swap_has3p hr hx ha hb hc h1 h2 h4, idx_same ha hx, idx_same hb hx, idx_same hc hx, idx_nxt hr ha, idx_nxt hr hb, idx_nxt hr hc]
  rfl
theorem swap_nxt (hr : Ring l) (hx : x ∈ l) : nxt (swapL l x) (nxt l x) = x := by
  have h3 := hr.1.1
  have hi := List.idxOf_lt_length_of_mem hx
  have hj : (l.idxOf x + 1) % l.length < l.length := Nat.mod_lt _ (by omega)
  have ht := swp_tell hr.1 hi hj
  have hy := nxt_mem (x := x) hr
  obtain ⟨hr', hl'⟩ := swap_ring hr hx
  have mx := (swp_mem l _ _ hi hj x).2 hx
  have my := (swp_mem l _ _ hi hj (nxt l x)).2 hy
  have kx : x ∈ swapL l x := (cutL_mem _ 0 _ ht.zero).2 mx
  have ky : nxt l x ∈ swapL l x := (cutL_mem _ 0 _ ht.zero).2 my
  have s1 : stepsI (swapL l x) (nxt l x) x = 1 := by
    unfold swapL
    rw [steps_cut ht ht.zero my mx]
    unfold stepsI
    rw [swp_length, swp_place hr hx hx, swp_place hr hx hy, nxt_idx hr]
    have hne := nxt_ne hr hx
    have hij : l.idxOf x ≠ (l.idxOf x + 1) % l.length := fun e => hne (by
      have := nxt_idx (x := x) hr
      rw [← e] at this
      rw [← get_idx hy, this, get_idx hx])
    unfold swF
    rw [if_pos rfl, if_neg (Ne.symm hij), if_pos rfl]
    rcases Nat.lt_or_ge (l.idxOf x + 1) l.length with hl | hl
    · rw [Nat.mod_eq_of_lt hl]
      rw [show (((l.idxOf x + 1 : Nat) : Int) - (l.idxOf x : Int)) = 1 by omega]
      exact Int.emod_eq_of_lt (by omega) (by omega)
    · have e : l.idxOf x + 1 = l.length := by omega
      rw [e, Nat.mod_self, ← Int.add_emod_right]
      rw [show (((0 : Nat) : Int) - (l.idxOf x : Int) + (l.length : Int)) = 1 by omega]
      exact Int.emod_eq_of_lt (by omega) (by omega)
  have p := List.idxOf_lt_length_of_mem kx
  have q := List.idxOf_lt_length_of_mem ky
  unfold stepsI at s1
  rw [emod_sub (by omega) (by omega) (by omega) (by omega)] at s1
  unfold nxt
  refine Eq.trans (congrArg (fun k => (swapL l x).getD k 0) ?_) (get_idx kx)
  show ((swapL l x).idxOf (nxt l x) + 1) % (swapL l x).length = (swapL l x).idxOf x
  split at s1
  · rw [Nat.mod_eq_of_lt (by omega)]; omega
  · rw [show (swapL l x).idxOf (nxt l x) + 1 = (swapL l x).length by omega, Nat.mod_self]; omega
theorem swap_back (hr : Ring l) (hx : x ∈ l) : swapL (swapL l x) (nxt l x) = l := by
  obtain ⟨hr', hl'⟩ := swap_ring hr hx
  have hy' : nxt l x ∈ swapL l x := by
    have bd := hr.1.2.2.1 _ (nxt_mem (x := x) hr)
    exact hr'.1.has bd.1 (by omega)
  obtain ⟨hr2, hl2⟩ := swap_ring hr' hy'
  refine ring_ext hr2 hr (by rw [hl2, hl']) fun a b c hab hbc hc => ?_
  rw [hl2, hl'] at hc
  have ma := pt_in hr.1 (x := a) (by omega)
  have mb := pt_in hr.1 (x := b) (by omega)
  have mc := pt_in hr.1 (x := c) hc
  have ma' := pt_in hr'.1 (x := a) (by omega)
  have mb' := pt_in hr'.1 (x := b) (by omega)
  have mc' := pt_in hr'.1 (x := c) (by omega)
  rw [swap_has3 hr' hy' ma' mb' mc' (by omega) (by omega) (by omega), swap_nxt hr hx, swap_has3 hr hx ma mb mc (by omega) (by omega) (by omega)]
  cases (decide ((a : Int) = x) || decide ((b : Int) = x) || decide ((c : Int) = x)) <;> cases (decide ((a : Int) = nxt l x) || decide ((b : Int) = nxt l x) || decide ((c : Int) = nxt l x)) <;> simp
end
/-- How many sets of three hold two points. -/
def cnt2 (n x y : Nat) : Int := sumN (fun i => sumN (fun j => sumN (fun k => if ((Nat.beq i x || Nat.beq (i + 1 + j) x || Nat.beq (i + 1 + j + 1 + k) x) && (Nat.beq i y || Nat.beq (i + 1 + j) y || Nat.beq (i + 1 + j + 1 + k) y)) = true then 1 else 0) (n - (i + 1 + j + 1))) (n - (i + 1))) n
theorem cnt2_val : ∀ n : Fin 8, ∀ x y : Fin 7, 3 ≤ n.val → x.val < n.val → y.val < n.val → x ≠ y → cnt2 n.val x.val y.val = (n.val : Int) - 2 := by decide +kernel
theorem beq_dec (a b : Nat) : Nat.beq a b = decide ((a : Int) = (b : Int)) := by
  rw [Bool.eq_iff_iff, decide_eq_true_eq]
  constructor
  · intro h; rw [Nat.eq_of_beq_eq_true h]
  · intro h
    obtain rfl : a = b := by omega
    exact Nat.beq_refl a
theorem swap_differ {l : List Int} {x : Int} (hr : Ring l) (hx : x ∈ l) : difX l (swapL l x) l.length = (l.length : Int) - 2 := by
  have bx := hr.1.2.2.1 x hx
  have hy := nxt_mem (x := x) hr
  have by' := hr.1.2.2.1 _ hy
  have hne := nxt_ne hr hx
  have h3 := hr.1.1
  have h7 := hr.1.2.1
  obtain ⟨p, hp⟩ : ∃ p : Nat, x = (p : Int) := ⟨x.toNat, by omega⟩
  obtain ⟨q, hq⟩ : ∃ q : Nat, nxt l x = (q : Int) := ⟨(nxt l x).toNat, by omega⟩
  have k := cnt2_val ⟨l.length, by omega⟩ ⟨p, by omega⟩ ⟨q, by omega⟩ h3 (by simp; omega) (by simp; omega) (by simp; omega)
  simp only at k
  rw [← k]
  have key : ∀ a b c : Nat, a < b → b < c → c < l.length → dif l (swapL l x) a b c = if ((Nat.beq a p || Nat.beq b p || Nat.beq c p) && (Nat.beq a q || Nat.beq b q || Nat.beq c q)) = true then 1 else 0 := fun a b c hab hbc hc => by
    have h := swap_has3 hr hx (pt_in hr.1 (x := a) (by omega)) (pt_in hr.1 (x := b) (by omega)) (pt_in hr.1 (x := c) hc) (by omega) (by omega) (by omega)
    rw [hq, hp, ← beq_dec, ← beq_dec, ← beq_dec, ← beq_dec, ← beq_dec, ← beq_dec, ← hp] at h
    unfold dif
    rw [h]
    cases (Nat.beq a p || Nat.beq b p || Nat.beq c p) <;> cases (Nat.beq a q || Nat.beq b q || Nat.beq c q) <;> simp
  unfold difX cnt2
  refine sumN_congr _ fun i hi => ?_
  unfold difY
  refine sumN_congr _ fun j hj => ?_
  unfold difZ
  refine sumN_congr _ fun k hk => ?_
  exact key i (i + 1 + j) (i + 1 + j + 1 + k) (by omega) (by omega) (by omega)
end Go.Proofs.Ytamnacgclhaggab
