/- The maths of points called otherwise. -/
import Derived.Test.YtamnacgclhaggabPR
import Derived.Test.YtamnacgclhaggabNamedT
namespace Go.Proofs.Ytamnacgclhaggab
open Go.ChangeShapes Go.WideShapes Go.ChangeAt Go.RowKit

theorem callL_len (l p : List Int) : (callL l p).length = l.length := by simp [callL]
theorem callL_at {l p : List Int} {x : Int} (hx : x ∈ l) : (callL l p).getD (l.idxOf x) 0 = p.getD x.toNat 0 := by
  rw [callL_get l p _ (List.idxOf_lt_length_of_mem hx), at_idx l x hx]
theorem callL_tell {l p : List Int} (h : Tell l) (hp : Tell p) (e : p.length = l.length) : Tell (callL l p) := by
  refine nodup_of_mem (callL l p) p (by rw [callL_len, e]) hp fun x hx => ?_
  have hi := List.idxOf_lt_length_of_mem hx
  have hj : ((p.idxOf x : Nat) : Int) ∈ l := h.has (by omega) (by omega)
  have := callL_at (p := p) hj
  rw [Int.toNat_natCast, at_idx p x hx] at this
  rw [← this]
  exact getD_mem _ _ (by rw [callL_len]; exact List.idxOf_lt_length_of_mem hj)
theorem callL_idx {l p : List Int} (h : Tell l) (hp : Tell p) (e : p.length = l.length) {x : Int} (hx : x ∈ l) : (callL l p).idxOf (p.getD x.toNat 0) = l.idxOf x := by
  rw [← callL_at hx]
  exact idxAt (callL_tell h hp e).2.2.2 (by rw [callL_len]; exact List.idxOf_lt_length_of_mem hx)
theorem upTell {n : Nat} (h3 : 3 ≤ n) (h7 : n ≤ 7) : Tell (upFrom 0 n) := by
  refine ⟨by simpa, by simpa, fun x hx => ?_, ?_⟩
  · obtain ⟨i, hi, rfl⟩ := List.mem_map.1 hx
    have := List.mem_range.1 hi
    simp; omega
  · unfold upFrom List.Nodup
    rw [List.pairwise_map]
    exact List.Pairwise.imp (fun h e => by omega) List.pairwise_lt_range
theorem call_self {l : List Int} (h : Tell l) : callL l (upFrom 0 l.length) = l := by
  refine ext_getD _ _ (callL_len _ _) fun k hk => ?_
  rw [callL_len] at hk
  have hb := h.2.2.1 _ (getD_mem l k hk)
  rw [callL_get l _ k hk, upFrom_get 0 l.length _ (by omega)]
  omega
theorem named_self {l : List Int} (h : Ring l) : namedB l (upFrom 0 l.length) = true ∧ namedR l (upFrom 0 l.length) = l := by
  have hb : namedB l (upFrom 0 l.length) = true := by
    rw [namedB, ring_yes h, tell_yes (upTell h.1.1 h.1.2.1)]
    simp
  refine ⟨hb, ?_⟩
  rw [namedR, if_pos hb, call_self h.1]
  exact cut_zero l (idx_zero l (by have := h.1.1; omega) h.2)
theorem named_own {l : List Int} (h : Ring l) : namedB l l = true ∧ namedR l l = callL l l ∧ hasB (callL l l) 0 = true ∧ nextR (callL l l) 0 = l.getD (l.getD 1 0).toNat 0 := by
  have h3 := h.1.1
  have hb : namedB l l = true := by rw [namedB, ring_yes h, tell_yes h.1]; simp
  have ht := callL_tell h.1 h.1 rfl
  have h0 : (callL l l).getD 0 0 = 0 := by rw [callL_get l l 0 (by omega), h.2]; exact h.2
  have hr : Ring (callL l l) := ⟨ht, h0⟩
  have hh := hasB_of hr ht.zero
  have hi := idx_zero (callL l l) (by rw [callL_len]; omega) h0
  refine ⟨hb, ?_, hh, ?_⟩
  · rw [namedR, if_pos hb]
    exact cut_zero _ hi
  · rw [nextR, if_pos hh, hi, callL_len, Nat.mod_eq_of_lt (by omega), callL_get l l 1 (by omega)]
theorem namedB_no {l p : List Int} (h : ¬ namedB l p = true) : namedB l p = false := by simpa using h
/-- Steps stay when a list is begun elsewhere. -/
theorem steps_cut {l : List Int} {z x y : Int} (h : Tell l) (hz : z ∈ l) (hx : x ∈ l) (hy : y ∈ l) : stepsI (cutL l z) x y = stepsI l x y := by
  obtain ⟨e1, _⟩ := cutL_idx h hz hx
  obtain ⟨e2, _⟩ := cutL_idx h hz hy
  unfold stepsI
  rw [cutL_len, ← e1, ← e2]
  generalize l.idxOf z = q
  generalize (cutL l z).idxOf x = i
  generalize (cutL l z).idxOf y = j
  generalize l.length = n
  have a := Nat.div_add_mod (q + i) n
  have b := Nat.div_add_mod (q + j) n
  have e : ((((q + j) % n : Nat) : Int) - (((q + i) % n : Nat) : Int)) = ((j : Int) - (i : Int)) + (n : Int) * ((((q + i) / n : Nat) : Int) - (((q + j) / n : Nat) : Int)) := by
    have a' : (n : Int) * (((q + i) / n : Nat) : Int) + (((q + i) % n : Nat) : Int) = (q : Int) + i := by exact_mod_cast a
    have b' : (n : Int) * (((q + j) / n : Nat) : Int) + (((q + j) % n : Nat) : Int) = (q : Int) + j := by exact_mod_cast b
    rw [Int.mul_sub]
    omega
  rw [e, Int.add_mul_emod_self_left]
theorem named_steps {l p : List Int} (h : Ring l) (hp : Tell p) (e : p.length = l.length) :
    hasB2 l 0 1 = true ∧ stepsR l 0 1 = stepsI l 0 1 ∧ hasB2 (cutL (callL l p) 0) (p.getD 0 0) (p.getD 1 0) = true ∧ stepsR (cutL (callL l p) 0) (p.getD 0 0) (p.getD 1 0) = stepsI l 0 1 := by
  have h3 := h.1.1
  have m0 : (0 : Int) ∈ l := h.1.zero
  have m1 : (1 : Int) ∈ l := h.1.has (by omega) (by omega)
  have b1 : hasB2 l 0 1 = true := by rw [hasB2, hasB_of h m0, hasB_of h m1]; rfl
  have ht := callL_tell h.1 hp e
  have hr := cutL_ring ht
  have k0 : p.getD 0 0 ∈ callL l p := by
    have := callL_at (p := p) m0
    rw [show (0 : Int).toNat = 0 from rfl] at this
    rw [← this]
    exact getD_mem _ _ (by rw [callL_len]; exact List.idxOf_lt_length_of_mem m0)
  have k1 : p.getD 1 0 ∈ callL l p := by
    have := callL_at (p := p) m1
    rw [show (1 : Int).toNat = 1 from rfl] at this
    rw [← this]
    exact getD_mem _ _ (by rw [callL_len]; exact List.idxOf_lt_length_of_mem m1)
  have b2 : hasB2 (cutL (callL l p) 0) (p.getD 0 0) (p.getD 1 0) = true := by
    rw [hasB2, hasB_of hr ((cutL_mem _ 0 _ ht.zero).2 k0), hasB_of hr ((cutL_mem _ 0 _ ht.zero).2 k1)]; rfl
  refine ⟨b1, by rw [stepsR, if_pos b1], b2, ?_⟩
  rw [stepsR, if_pos b2, steps_cut ht ht.zero k0 k1]
  have i0 := callL_idx h.1 hp e m0
  have i1 := callL_idx h.1 hp e m1
  rw [show (0 : Int).toNat = 0 from rfl] at i0
  rw [show (1 : Int).toNat = 1 from rfl] at i1
  unfold stepsI
  rw [callL_len, i0, i1]
end Go.Proofs.Ytamnacgclhaggab
