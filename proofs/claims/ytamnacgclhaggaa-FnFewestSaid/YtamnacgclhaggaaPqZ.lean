/- No more than three chords can be drawn without a crossing. -/
import Derived.Test.YtamnacgclhaggaaPqN
import Derived.Test.YtamnacgclhaggaaPqB
namespace Go.Proofs.Ytamnacgclhaggaa
open Go.ChangeShapes Go.WideShapes Go.ChangeAt Go.RowKit

def keyZ (n : Nat) : Bool := (List.range n).all fun x => (List.range n).all fun y => Nat.beq x y || (List.range n).all fun z => (List.range n).all fun u => Nat.beq z u || (List.range (facM n)).any fun k => besB (byL n (k : Int)) (x : Int) (y : Int) && besB (byL n (k : Int)) (z : Int) (u : Int)
set_option maxRecDepth 100000 in
theorem keyZ_all : keyZ 4 = true ∧ keyZ 5 = true ∧ keyZ 6 = true := by decide +kernel
theorem keyZ_at {n : Nat} (h4 : 4 ≤ n) (h6 : n ≤ 6) {x y z u : Nat} (hx : x < n) (hy : y < n) (hxy : x ≠ y) (hz : z < n) (hu : u < n) (hzu : z ≠ u) : ∃ k, k < facM n ∧ besB (byL n (k : Int)) x y = true ∧ besB (byL n (k : Int)) z u = true := by
  have hA : keyZ n = true := by
    obtain rfl | rfl | rfl : n = 4 ∨ n = 5 ∨ n = 6 := by omega
    · exact keyZ_all.1
    · exact keyZ_all.2.1
    · exact keyZ_all.2.2
  unfold keyZ at hA
  simp only [List.all_eq_true, List.mem_range, Bool.or_eq_true, List.any_eq_true, Bool.and_eq_true, Nat.beq_eq] at hA
  have := hA x hx y hy
  simp only [hxy, false_or] at this
  have := this z hz u hu
  simp only [hzu, false_or] at this
  exact this
theorem bs_of {l : List Int} {x y : Nat} (hr : Ring l) (hx : x < l.length) (hy : y < l.length) (hxy : x ≠ y) (h : besB l x y = true) : bsB l x y = true := by
  unfold bsB
  have ht : two (l.length : Int) [(x : Int), (y : Int)] = true := by
    unfold two
    rw [decide_eq_true_eq, two2]
    omega
  rw [ring_yes hr, ht, h]
  rfl
/-- Two points beside each other cross nothing, asked either way. -/
theorem chk_none {l : List Int} {x y : Int} (hr : Ring l) (h : bsB l x y = true) (o : List Int) (ho : o.length = 2) : chkB l [x, y] o = false ∧ chkB l o [x, y] = false := by
  have hb := (bes_told h).2
  obtain ⟨z, u, rfl⟩ : ∃ z u, o = [z, u] := by
    match o, ho with
    | [z, u], _ => exact ⟨z, u, rfl⟩
  have e1 : ∀ t, chkB l t [] = prtB l t := fun t => by
    unfold chkB prtB
    rw [ring_yes hr, Bool.true_and, List.append_nil]
  have e2 : ∀ p q, chkB l p q = prtB l (p ++ q) := fun p q => by
    unfold chkB prtB
    rw [ring_yes hr, Bool.true_and]
  rw [e2, e2]
  refine ⟨hb z u, ?_⟩
  cases hp : prtB l ([z, u] ++ [x, y]) with
  | false => rfl
  | true =>
    obtain ⟨_, a, b, c, d, e, f, hpp⟩ := prt_told hp
    simp only [List.cons_append, List.nil_append, List.cons.injEq, and_true] at e
    obtain ⟨rfl, rfl, rfl, rfl⟩ := e
    have h1 := hb z u
    rw [prt_of hr f.swap, part_swap f, hpp] at h1
    cases h1
theorem two_nat {n : Nat} {t : List Int} (h : Two (n : Int) t) : ∃ x y : Nat, t = [(x : Int), (y : Int)] ∧ x < n ∧ y < n ∧ x ≠ y := by
  have hl := h.2
  obtain ⟨a, b, rfl⟩ : ∃ a b, t = [a, b] := by
    match t, hl with
    | [a, b], _ => exact ⟨a, b, rfl⟩
  obtain ⟨⟨a0, a1⟩, ⟨b0, b1⟩, hne⟩ := (two2 _ a b).1 h
  exact ⟨a.toNat, b.toNat, by rw [show ((a.toNat : Nat) : Int) = a by omega, show ((b.toNat : Nat) : Int) = b by omega], by omega, by omega, by omega⟩
/-- No more than three chords: some ring has none that cross. -/
theorem few_none {n : Nat} {L : List (List Int)} (h4 : 4 ≤ n) (h6 : n ≤ 6) (hc : choB (n : Int) L = true) (h3 : L.length ≤ 3) : ∃ k, k < facM n ∧ chN (byL n (k : Int)) L = 0 := by
  have hf := (facM_eq7 n (by omega) (by omega)).1
  have hpos : 0 < facM n := by
    obtain rfl | rfl | rfl : n = 4 ∨ n = 5 ∨ n = 6 := by omega
    all_goals decide
  obtain ⟨_, hall⟩ := cho_yes hc
  have ring : ∀ k, k < facM n → Ring (byL n (k : Int)) := fun k hk => (by_tell n (k : Int) (by omega) (by omega) (by omega) (by omega)).1
  match L, h3 with
  | [], _ => exact ⟨0, hpos, rfl⟩
  | [a], _ => exact ⟨0, hpos, rfl⟩
  | [a, b], _ =>
    obtain ⟨x, y, rfl, hx, hy, hxy⟩ := two_nat (hall a (by simp))
    obtain ⟨z, u, rfl, hz, hu, hzu⟩ := two_nat (hall b (by simp))
    obtain ⟨k, hk, b1, b2⟩ := keyZ_at h4 h6 hx hy hxy hz hu hzu
    have hr := ring k hk
    have c1 := (chk_none hr (bs_of hr (by rw [byL_length]; exact hx) (by rw [byL_length]; exact hy) hxy b1) [(z : Int), u] rfl).2
    exact ⟨k, hk, by simp [chN, cout, cin, chkF, rowK, c1]⟩
  | [a, b, c], _ =>
    obtain ⟨x, y, rfl, hx, hy, hxy⟩ := two_nat (hall a (by simp))
    obtain ⟨z, u, rfl, hz, hu, hzu⟩ := two_nat (hall b (by simp))
    obtain ⟨p, q, rfl, hp, hq, hpq⟩ := two_nat (hall c (by simp))
    obtain ⟨k, hk, b1, b2⟩ := keyZ_at h4 h6 hx hy hxy hz hu hzu
    have hr := ring k hk
    have g1 := bs_of hr (by rw [byL_length]; exact hx) (by rw [byL_length]; exact hy) hxy b1
    have g2 := bs_of hr (by rw [byL_length]; exact hz) (by rw [byL_length]; exact hu) hzu b2
    have c1 := (chk_none hr g1 [(z : Int), u] rfl).2
    have c2 := (chk_none hr g1 [(p : Int), q] rfl).2
    have c3 := (chk_none hr g2 [(p : Int), q] rfl).2
    exact ⟨k, hk, by simp [chN, cout, cin, chkF, rowK, c1, c2, c3]⟩
/-- All that FnFewest asks of the maths. -/
theorem few_told {n : Nat} {L : List (List Int)} (h : feB (n : Int) L = true) : ∃ o : Nat, feV (n : Int) L = (o : Int) ∧ pcR (feL (n : Int) L) L = (o : Int) ∧ pcB (feL (n : Int) L) L = true ∧ L.length ≤ 8 ∧ (L.length ≤ 3 → o = 0) := by
  obtain ⟨m, hm, h4, h6, hc⟩ := fe_nat h
  obtain rfl : n = m := by omega
  obtain ⟨hi, hv⟩ := few_is n L (by omega) h6
  have hl : (fewL n L).length = n := hi.1
  have hr : Ring (fewL n L) := by
    obtain ⟨j, hj, e1, _⟩ := bsf_is n L (facM n) (by
      obtain rfl | rfl | rfl : n = 4 ∨ n = 5 ∨ n = 6 := by omega
      all_goals decide)
    have hf := (facM_eq7 n (by omega) (by omega)).1
    unfold fewL
    rw [e1]
    exact (by_tell n (j : Int) (by omega) (by omega) (by omega) (by omega)).1
  have eL : feL (n : Int) L = fewL n L := by rw [feL, if_pos h, Int.toNat_natCast]
  have eV : feV (n : Int) L = fewV n L := by rw [feV, if_pos h, Int.toNat_natCast]
  have hp : pcB (fewL n L) L = true := by
    unfold pcB
    rw [ring_yes hr, hl, hc]
    rfl
  refine ⟨chN (fewL n L) L, by rw [eV, hv], by rw [eL, pcR, if_pos hp], by rw [eL]; exact hp, (cho_yes hc).1, fun h3 => ?_⟩
  obtain ⟨k, hk, hz⟩ := few_none h4 h6 hc h3
  have := (bsf_least n L (facM n) k hk).2
  rw [hz] at this
  unfold fewV at hv
  omega
end Go.Proofs.Ytamnacgclhaggaa
