/- Parts without their last point; parts gone the other way; rings that have parts. Plain lemmas. -/
import Derived.Test.YtgojojoanhilnabDoorWvB
import Derived.Test.YtgojojoanhilnabDoorWvY3
import Derived.Test.YtgojojoanhilnabDoorSwM
import Derived.Test.YtgojojoanhilnabDoorCount
namespace Go.Proofs.YtgojojoanhilnabDoor
open Go.ChangeShapes Go.WideShapes Go.ChangeAt Go.RowKit

theorem low_mask {n : Int} {p : List Int} (hp : Prt n p) : ((lowN (maskN p) : Nat) : Int) = p.getD 0 0 := by
  have hl := hp.len
  have h0 := getD_mem p 0 (by omega)
  have hb := hp.bd _ h0
  have hlt := mask_lt p hp.bd
  have hpos := mask_pos hp
  obtain ⟨h1, h2⟩ := low_has (maskN p) hlt (by omega)
  have e1 := mask_at hp (lowN (maskN p))
  rw [h1] at e1
  have hm : ((lowN (maskN p) : Nat) : Int) ∈ p := by simpa using e1.symm
  have h3 := hp.2.2.2 _ hm
  have e2 := mask_at hp (p.getD 0 0).toNat
  rw [Int.toNat_of_nonneg hb.1, decide_eq_true h0] at e2
  by_cases hlt2 : (p.getD 0 0).toNat < lowN (maskN p)
  · rw [h2 _ hlt2] at e2
    cases e2
  · omega
theorem part_mask {n : Int} {l p : List Int} (hp : Prt n p) (hl : ∀ x ∈ l, 0 ≤ x) : partL l (maskN p) = (cutL l (p.getD 0 0)).filter fun x => decide (x ∈ p) := by
  unfold partL pickN
  rw [low_mask hp]
  refine List.filter_congr fun x hx => ?_
  have hx0 : 0 ≤ x ∨ x ∉ l := by
    by_cases h : x ∈ l
    · exact .inl (hl x h)
    · exact .inr h
  rcases hx0 with h | h
  · exact mask_has p (fun y hy => (hp.bd y hy).1) x h
  · unfold cutL at hx
    obtain ⟨k, hk, rfl⟩ := List.mem_map.1 hx
    by_cases hk0 : (l.idxOf (p.getD 0 0) + k) % l.length < l.length
    · exact absurd (getD_mem l _ hk0) h
    · have := List.mem_range.1 hk
      exact absurd (Nat.mod_lt _ (by omega)) hk0
theorem filter_take {p : List Int} (hd : p.Nodup) (j : Nat) : p.filter (fun x => decide (x ∈ p.take j)) = p.take j := by
  conv => lhs; arg 2; rw [← List.take_append_drop j p]
  rw [List.filter_append]
  have h1 : (p.take j).filter (fun x => decide (x ∈ p.take j)) = p.take j := by
    rw [List.filter_eq_self]
    intro x hx
    simpa using hx
  have h2 : (p.drop j).filter (fun x => decide (x ∈ p.take j)) = [] := by
    rw [List.filter_eq_nil_iff]
    intro x hx
    have hdd : (p.take j ++ p.drop j).Nodup := by rw [List.take_append_drop]; exact hd
    rw [List.nodup_append] at hdd
    intro e
    exact hdd.2.2 x (by simpa using e) x hx rfl
  rw [h1, h2, List.append_nil]
theorem prt_take {n : Int} {p : List Int} (hp : Prt n p) (h2 : 2 ≤ p.length) : Prt n (p.take (p.length - 1)) := by
  refine ⟨hp.1, ?_, ⟨fun x hx => hp.2.2.1.1 x (List.mem_of_mem_take hx), hp.2.2.1.2.sublist (List.take_sublist _ _)⟩, fun x hx => ?_⟩
  · intro e
    have := congrArg List.length e
    simp at this
    omega
  · have e : (p.take (p.length - 1)).getD 0 0 = p.getD 0 0 := by
      simp only [List.getD, List.getElem?_take]
      rw [if_pos (by omega)]
    rw [e]
    exact hp.2.2.2 x (List.mem_of_mem_take hx)
theorem has_take {n : Int} {l p : List Int} (hp : Prt n p) (hl : ∀ x ∈ l, 0 ≤ x) (h2 : 2 ≤ p.length) (h : hasL l p = true) : hasL l (p.take (p.length - 1)) = true := by
  unfold hasL at h ⊢
  rw [decide_eq_true_eq] at h ⊢
  have hp' := prt_take hp h2
  rw [part_mask hp hl] at h
  rw [part_mask hp' hl]
  have e : (p.take (p.length - 1)).getD 0 0 = p.getD 0 0 := by
    simp only [List.getD, List.getElem?_take]
    rw [if_pos (by omega)]
  rw [e]
  have e2 : ((cutL l (p.getD 0 0)).filter fun x => decide (x ∈ p.take (p.length - 1))) = ((cutL l (p.getD 0 0)).filter fun x => decide (x ∈ p)).filter fun x => decide (x ∈ p.take (p.length - 1)) := by
    rw [List.filter_filter]
    refine List.filter_congr fun x _ => ?_
    by_cases hx : x ∈ p.take (p.length - 1)
    · simp [hx, List.mem_of_mem_take hx]
    · simp [hx]
  rw [e2, h]
  exact filter_take hp.2.2.1.2 _
theorem back_fix {p : List Int} (hd : p.Nodup) : backL p = p ↔ p.length ≤ 2 := by
  constructor
  · intro e
    by_cases h : p.length ≤ 2
    · exact h
    · exfalso
      have e1 := backL_get p 1 (by omega)
      rw [e, Nat.mod_eq_of_lt (by omega)] at e1
      simp only [List.getD, List.getElem?_eq_getElem (show 1 < p.length by omega), List.getElem?_eq_getElem (show p.length - 1 < p.length by omega), Option.getD_some] at e1
      have := (List.getElem_inj hd).1 e1
      omega
  · intro h
    match p, h with
    | [], _ => rfl
    | [a], _ => simp [backL, List.range_succ]
    | [a, b], _ => simp [backL, List.range_succ]
/-- All that FnWeaveHas asks of the maths. -/
theorem whas_told {l p : List Int} (h : whB l p = true) : Ring l ∧ p.length ≤ 6 ∧ 1 ≤ p.length ∧ (2 ≤ p.length → whB l (p.take (p.length - 1)) = true) ∧ whB (backL l) p = decide (p.length ≤ 2) ∧ backR l = backL l := by
  have h' : Ring l ∧ Prt (l.length : Int) p ∧ hasL l p = true := by simpa [whB] using h
  obtain ⟨hr, hp, hh⟩ := h'
  have hpl := hp.len
  have hpos : ∀ x ∈ l, 0 ≤ x := fun x hx => (hr.1.2.2.1 x hx).1
  refine ⟨hr, hpl.2.2, hpl.1, fun h2 => ?_, ?_, by rw [backR, if_pos hr]⟩
  · rw [wh_all hr (prt_take hp h2)]
    exact has_take hp hpos h2 hh
  · have hp' : Prt ((backL l).length : Int) p := by rw [backL_length]; exact hp
    rw [wh_all (backL_ring' hr) hp']
    have h36 := hp.1
    have hm := mask_pow hp
    rw [Int.toNat_natCast] at hm
    have hw : WP l ((maskN p : Nat) : Int) := by
      refine ⟨hr, by omega, by have := mask_pos hp; omega, ?_⟩
      have e : ((2 ^ l.length : Nat) : Int) = 2 ^ l.length := by simp
      omega
    have hb : WP (backL l) ((maskN p : Nat) : Int) := ⟨backL_ring' hr, by rw [backL_length]; exact hw.2.1, hw.2.2.1, by rw [backL_length]; exact hw.2.2.2⟩
    have e1 := (part_back hw).2
    rw [(wp_yes hb).2, Int.toNat_natCast] at e1
    have e2 : partL l (maskN p) = p := by simpa [hasL] using hh
    rw [e2] at e1
    unfold hasL
    rw [e1, decide_eq_decide]
    exact back_fix hp.2.2.1.2
/-- All that FnWeaveRings asks of the maths. -/
theorem wr_told {m : Nat} {L : List (List Int)} (h : Lst (m : Int) L) : 0 ≤ wrR (m : Int) L ∧ wrR (m : Int) L ≤ rcount (m : Int) ∧ (L.length = 0 → wrR (m : Int) L = rcount (m : Int)) ∧ wfsB (m : Int) L = decide (0 < wrR (m : Int) L) ∧ wrR (m : Int) L ≤ 720 := by
  have h36 := h.1
  have hf := (facM_eq7 m (by omega) (by omega)).1
  have hrc : rcount (m : Int) = facN (m - 1) := by
    unfold rcount
    rw [if_pos (by omega)]
    congr 1
  have e1 : wrR (m : Int) L = ((wovenL m L).length : Nat) := by rw [wrR, if_pos h, Int.toNat_natCast]
  have hle : (wovenL m L).length ≤ facM m := by
    have := List.length_filter_le (fun l => L.all (hasL l)) (ringsL m)
    rw [ringsL_length] at this
    exact this
  have h720 := (facM_eq7 m (by omega) (by omega)).2.1
  refine ⟨by rw [e1]; omega, by rw [e1, hrc]; omega, fun h0 => ?_, ?_, by rw [e1]; omega⟩
  · obtain rfl := List.eq_nil_of_length_eq_zero h0
    rw [e1, hrc, ← hf]
    have : (wovenL m []).length = facM m := by
      unfold wovenL
      simp only [List.all_nil]
      rw [List.filter_eq_self.2 (fun _ _ => rfl), ringsL_length]
    rw [this]
  · rw [wfsB, if_pos h, Int.toNat_natCast, e1, decide_eq_decide]
    omega
/-- All that FnWeaveFirst asks of the maths. -/
theorem wf_told {m : Nat} {L : List (List Int)} (h : wfsB (m : Int) L = true) : ringB (wfsR (m : Int) L) = true ∧ (wfsR (m : Int) L).length = m ∧ ∀ k, k < L.length → whB (wfsR (m : Int) L) (rowK L k) = true := by
  have ht : Lst (m : Int) L := by
    by_cases ht : Lst (m : Int) L
    · exact ht
    · rw [wfsB, if_neg ht] at h; cases h
  have h36 := ht.1
  rw [wfsB, if_pos ht, Int.toNat_natCast, decide_eq_true_eq] at h
  have e : wfsR (m : Int) L = rowK (wovenL m L) 0 := by rw [wfsR, if_pos ht, Int.toNat_natCast]
  rw [e]
  have hmem := rowK_mem (M := wovenL m L) (k := 0) h
  have hi := wovenL_is m L (by omega) (by omega) _ hmem
  have ha := (List.mem_filter.1 hmem).2
  rw [List.all_eq_true] at ha
  have hr : Ring (rowK (wovenL m L) 0) := by
    have hmr := (List.mem_filter.1 hmem).1
    unfold ringsL at hmr
    obtain ⟨j, hj, ej⟩ := List.mem_map.1 hmr
    rw [List.mem_range] at hj
    have hf := (facM_eq7 m (by omega) (by omega)).1
    rw [← ej]
    exact (by_tell m (j : Int) (by omega) (by omega) (by omega) (by omega)).1
  refine ⟨ring_yes hr, hi.1, fun k hk => ?_⟩
  have hk' := rowK_mem (M := L) (k := k) hk
  rw [wh_all hr (by rw [hi.1]; exact ht.2.2 _ hk')]
  exact ha _ hk'
end Go.Proofs.YtgojojoanhilnabDoor
