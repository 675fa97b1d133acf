/- How many rings have such a winding: asked of all rings, by the program and by the model. -/
import Derived.Test.YtbfdbnminjhocaaWindX
import Derived.Test.YtbfdbnminjhocaaWdS
import Derived.Test.YtbfdbnminjhocaaWofT
namespace Go.Proofs.Ytbfdbnminjhocaa
open Go.ChangeShapes Go.WideShapes Go.ChangeAt Go.RowKit

/-- How many of f 0 .. f (K - 1) are 0, 1 .. n - 1. -/
def histL (f : Nat → Int) (n K : Nat) : List Int := (List.range n).map fun k : Nat => (((List.range K).countP fun j => decide (f j = (k : Int)) : Nat) : Int)
theorem histL_length (f : Nat → Int) (n K : Nat) : (histL f n K).length = n := by simp [histL]
theorem histL_get (f : Nat → Int) (n K k : Nat) (h : k < n) : (histL f n K).getD k 0 = (((List.range K).countP fun j => decide (f j = (k : Int)) : Nat) : Int) := by simp [histL, List.getD, h]
theorem histL_zero (f : Nat → Int) (n : Nat) : histL f n 0 = List.replicate n 0 := by
  apply List.ext_getElem (by simp [histL])
  intro i h1 h2
  simp [histL]
theorem histL_bd (f : Nat → Int) (n K k : Nat) (h : k < n) : 0 ≤ (histL f n K).getD k 0 ∧ (histL f n K).getD k 0 ≤ K := by
  rw [histL_get f n K k h]
  have := List.countP_le_length (p := fun j => decide (f j = (k : Int))) (l := List.range K)
  rw [List.length_range] at this
  omega
theorem histL_step (f : Nat → Int) (n K m : Nat) (hm : m < n) (hf : f K = (m : Int)) : (histL f n K).set m ((histL f n K).getD m 0 + 1) = histL f n (K + 1) := by
  rw [histL_get f n K m hm]
  apply List.ext_getElem (by simp [histL])
  intro i h1 h2
  rw [List.getElem_set]
  simp only [histL, List.getElem_map, List.getElem_range, List.range_succ, List.countP_append, List.countP_singleton]
  split
  · rename_i e
    subst e
    simp [hf]
  · rename_i e
    have : ¬ f K = (i : Int) := by omega
    simp [this]
theorem histL_congr {f g : Nat → Int} (n K : Nat) (h : ∀ j, j < K → f j = g j) : histL f n K = histL g n K := by
  unfold histL
  apply List.map_congr_left
  intro k _
  congr 1
  apply List.countP_congr
  intro j hj
  rw [h j (List.mem_range.1 hj)]

theorem byL_tell (n j : Nat) (h3 : 3 ≤ n) (h7 : n ≤ 7) (hj : j < facM n) : Tell (byL n j) := (byL_is7 n j h3 h7 hj).tell h3 h7
theorem upFrom_tell (n : Nat) (h3 : 3 ≤ n) (h7 : n ≤ 7) : Tell (upFrom 0 n) := by
  have h := byL_tell n 0 h3 h7 (by have := (facM_eq7 n h3 h7).2.2.1; omega)
  rw [show ((0 : Nat) : Int) = 0 from rfl, byL_zero n h7] at h
  exact h
theorem byL_w2 (n j : Nat) (l : List Int) (h3 : 3 ≤ n) (h7 : n ≤ 7) (hj : j < facM n) (ht : Tell l) (hl : l.length = n) : W2 (byL n j) l := ⟨byL_tell n j h3 h7 hj, ht, by rw [byL_length, hl]⟩
theorem counts_eq (n : Nat) (h3 : 3 ≤ n) (h7 : n ≤ 7) : histL (fun j : Nat => windL (byL n (j : Int)) (upFrom 0 n)) n (facM n) = histL (fun j : Nat => fallsL (byL n (j : Int))) n (facM n) := by
  refine histL_congr _ _ fun j hj => ?_
  have h := byL_w2 n j (upFrom 0 n) h3 h7 hj (upFrom_tell n h3 h7) (by simp)
  have e := byL_length n (j : Int)
  have := wind_falls (l := byL n j) (by rw [e]; exact h)
  rw [e] at this
  exact this
theorem falls_bd (l : List Int) (h : Tell l) : 0 ≤ fallsL l ∧ fallsL l < l.length := by
  have hw : W2 l (upFrom 0 l.length) := ⟨h, upFrom_tell l.length h.1 h.2.1, by simp⟩
  rw [← wind_falls hw]
  exact windL_bd l _ (by have := h.1; omega) (by simp)

/-- An element of a row of rings, loaded by another name. -/
theorem ldE {w : World} {B g n c k : Nat} {M : List (List Int)} (h : RowN w B 52 7 (.slice (some ⟨g, 0, none⟩) n c) M) (hk : k < M.length) : (ldR ⟨g, k * 7, none⟩).run Try.prog w = .ok (.agg (ints (rowK M k)).toArray) w := by
  obtain ⟨g', c', e, _, _, _, _, hlen, hc⟩ := h.elem hk
  injection e with e1 _ _
  injection e1 with e1
  injection e1 with e1
  subst e1
  exact run_load_at w 52 g (k * 7) (ints (rowK M k)) _ hc rfl Try.underlying52 (by rw [ring_size, ints_length, hlen])

theorem Own.keep2 {w w' : World} {B : Nat} {v : Value} {l : List Int} (h : Own w B v l) (hb : Below w.heap.size w w') : Own w' B v l := by
  refine ⟨h.1, ?_⟩
  rcases h.2 with e | ⟨g, cap, cur, hv, hg, hh, r⟩
  · exact .inl e
  · exact .inr ⟨g, cap, cur, hv, hg, by rw [hb.block g (Array.getElem?_eq_some_iff.1 hh).1]; exact hh, r⟩

attribute [local go_sem ↓] ldR_fold stR_fold in
set_option maxRecDepth 10000 in
set_option maxHeartbeats 2000000 in
theorem tcI_any (n : Nat) (l1 : List Int) (w : World) (h3 : 3 ≤ n) (h7 : n ≤ 7) (ht : Tell l1) (hl : l1.length = n) :
    Calls Try.prog 68 #[.int .i64 (n : Int), agp l1] w fun e w' => ∃ v, e = .returned v ∧ Own w' w.heap.size v (histL (fun j : Nat => windL (byL n (j : Int)) l1) n (facM n)) ∧ Below w.heap.size w w' := by
  obtain ⟨i0, hi, hz0, hz1, hz2⟩ := info_parts int_info
  obtain ⟨hf1, hf2, hf3, hf4⟩ := facM_eq7 n h3 h7
  obtain ⟨N, hN⟩ : ∃ N, N = facM n := ⟨_, rfl⟩
  have HALL := Lib.hid (fun W => allRings7_any n W h3 h7)
  have HTN := fun (k : Nat) (hk : k < N) W => turns_any (byL n k) l1 W (byL_w2 n k l1 h3 h7 (by omega) ht hl)
  have HBD : Hid (∀ k, k < N → 0 ≤ windL (byL n k) l1 ∧ windL (byL n k) l1 < n) := fun k hk => by
    have := windL_bd (byL n k) l1 (by rw [byL_length]; omega) (by rw [byL_length, hl])
    rw [byL_length] at this
    exact this
  have HML : Hid ((padM (ringsL n)).length = N) := by simp [padM, ringsL_length, hN, Hid]
  have HROW : Hid (∀ k, k < N → rowK (padM (ringsL n)) k = padR (byL n (k : Int))) := fun k hk => by
    simp [padM, ringsL, rowK, List.getD, show k < facM n by omega]
  have H7 := Lib.hid (fun (k : Nat) => padR_length (byL n (k : Int)) (by rw [byL_length]; omega))
  have h71 := padR_length l1 (by omega)
  rw [← hN] at hf2 hf3 ⊢
  unfold agp
  clear hf1 hf4 hN ht hl
  generalize padR l1 = Q at *
  obtain ⟨q0, q1, q2, q3, q4, q5, q6, rfl⟩ := seven h71
  obtain ⟨f, hf⟩ : ∃ f : Nat → Int, f = fun j : Nat => windL (byL n (j : Int)) l1 := ⟨_, rfl⟩
  have HF := Lib.hid hf
  have HTN : Hid (∀ (k : Nat), k < N → ∀ W, Calls Try.prog 65 #[agw (padR (byL n k)) [q0, q1, q2, q3, q4, q5, q6]] W fun e w' => e = .returned (.int .i64 (f k)) ∧ Below W.heap.size W w') := by rw [hf]; exact HTN
  have HBD : Hid (∀ k, k < N → 0 ≤ f k ∧ f k < n) := by rw [hf]; exact HBD
  rw [← hf]
  clear hf HF
  have HX0 : Hid (Arr (w.alloc (.cells (ints [q0, q1, q2, q3, q4, q5, q6]).toArray 52)) w.heap.size [q0, q1, q2, q3, q4, q5, q6]) := heap_alloc_new w _
  have HB0 := Lib.hid ((Below.refl w.heap.size w).alloc (Nat.le_refl _) (.cells (ints [q0, q1, q2, q3, q4, q5, q6]).toArray 52))
  go_enter Try.func68, Try.ntmps68
  go_wp2_with (at_make; refine wpList_make_full _ rfl _ _ 23 rfl (w.heap.size + 1) 3 i0 (.int .i64 0) 1 Try.underlying23 hi hz0 hz1 .i64 .i64 _ _ n rfl rfl rfl rfl (by rw [hz2]; omega) (by unfold maxLen; omega) (by simp) ?_)
  intro w1 hown hgrow
  have hs0 : (w.alloc (.cells (ints [q0, q1, q2, q3, q4, q5, q6]).toArray 52)).heap.size = w.heap.size + 1 := by simp
  have HX1 : Hid (Arr w1 w.heap.size [q0, q1, q2, q3, q4, q5, q6]) := (hgrow.block _ HX0.out.lt (by simp)).trans HX0.out
  have HB1 : Hid (Below w.heap.size w w1) := HB0.out.grown hgrow (by simp) (by simp)
  have HO1 : Hid (Own w1 (w.heap.size + 1) (.slice (some ⟨w.heap.size + 1, 0, none⟩) n n) (histL f n 0)) := by
    rw [Hid, histL_zero]
    unfold Own
    rw [List.length_replicate]
    have e : ints (List.replicate n 0) = (madeCells #[Value.int IntKind.i64 0] n).toList := by
      rw [toList_madeCells_one]
      simp [ints]
    rw [e]
    exact hown
  have hs1 : w.heap.size + 1 < w1.heap.size := (HO1.out.lt _ rfl).2
  clear hown hgrow hs0 HX0 HB0
  generalize hB : w.heap.size = B at *
  have HB := Lib.hid hB
  clear hB
  go_wp2_with fail
  refine (HALL.out w1).mono ?_
  rintro e w2 ⟨v2, rfl, hrow, hb2⟩
  obtain ⟨gr, cr, rfl, hgr, hgs, hNc, hcm⟩ : ∃ gr cr, v2 = .slice (some ⟨gr, 0, none⟩) N cr ∧ w1.heap.size ≤ gr ∧ gr < w2.heap.size ∧ N ≤ cr ∧ cr ≤ maxLen := by
    obtain ⟨g, c, e, h1, h2, h3, h4, _⟩ := hrow.elem (k := 0) (by rw [HML.out]; omega)
    rw [HML.out] at e h3
    exact ⟨g, c, e, h1, h2, h3, h4⟩
  have HX2 := Lib.hid (HX1.out.below hb2 (by omega))
  have HO2 : Hid (Own w2 (B + 1) (.slice (some ⟨B + 1, 0, none⟩) n n) (histL f n 0)) := HO1.out.keep2 hb2
  have HB2 := Lib.hid (HB1.out.trans (hb2.mono (by omega)))
  have HW2 := Lib.hid (hrow.less (B' := B + 2) (by omega))
  clear hrow hb2 HX1 HO1 HB1
  generalize padM (ringsL n) = M at *
  go_wp2
  go_loopw [13] (fun i wr => ∃ k : Nat, k ≤ N ∧ i = .int .i64 k ∧ Hid (Own wr (B + 1) (.slice (some ⟨B + 1, 0, none⟩) n n) (histL f n k)) ∧ Hid (RowN wr (B + 2) 52 7 (.slice (some ⟨gr, 0, none⟩) N cr) M) ∧ Hid (Arr wr B [q0, q1, q2, q3, q4, q5, q6]) ∧ Hid (Below B w wr)) (fun i _ => N - (intOf i).toNat)
  case atStart => exact ⟨0, Nat.zero_le _, rfl, HO2, HW2, HX2, HB2⟩
  case round =>
    obtain ⟨k, hk, rfl, hown, hrow, hx, hbl⟩ := hrel
    clear HO2 HW2 HX2 HB2
    by_cases hlt : k < N
    · have e1 := ldE hrow.out (k := k) (by rw [HML.out]; exact hlt)
      rw [HROW.out k hlt] at e1
      have HT1 := HTN.out k hlt
      have hbd := HBD.out k hlt
      have h77 := H7.out k
      generalize padR (byL n (k : Int)) = P at *
      obtain ⟨p0, p1, p2, p3, p4, p5, p6, rfl⟩ := seven h77
      obtain ⟨m, hm⟩ : ∃ m : Nat, f k = (m : Int) := ⟨(f k).toNat, by omega⟩
      have hmn : m < n := by omega
      have HST := Lib.hid (histL_step f n k m hmn hm)
      have hcb := histL_bd f n k m hmn
      rw [hm] at HT1
      obtain ⟨W3, r3, hx3, hg3, hs3⟩ := stR_run (Q := [p0, p1, p2, p3, p4, p5, p6]) (new_ring wr) rfl rfl
      have hb3 : Below wr.heap.size wr W3 := ((Below.refl _ wr).alloc (Nat.le_refl _) _).grown hg3 (by simp) (by simp)
      have hx4 := hx.out.below hb3 hx.out.lt
      have l3 := ldR_run hx3 rfl
      have l4 := ldR_run hx4 rfl
      have HO3 := Lib.hid (hown.out.keep2 hb3)
      have HR3 := Lib.hid (hrow.out.below hb3 (fun i hi => (hrow.out.lt i hi).2))
      have HX3 := Lib.hid hx4
      have HB3 := Lib.hid (hbl.out.trans (hb3.mono (by have := hx.out.lt; omega)))
      have HT := Lib.hid HT1
      simp only [agw, ints, List.cons_append, List.nil_append, List.map_cons, List.map_nil] at HT
      simp only [ints, List.map_cons, List.map_nil] at r3 l3 l4 e1
      clear hb3 hx3 hg3 hs3 hx4 hown hrow hx hbl HT1 hbd hm
      go_wp2_with fail
      refine (HT.out _).mono ?_
      rintro e w4 ⟨rfl, hb4⟩
      have HO4 := HO3.out.keep2 hb4
      have HR4 := Lib.hid (HR3.out.below hb4 (fun i hi => (HR3.out.lt i hi).2))
      have HX4 := Lib.hid (HX3.out.below hb4 HX3.out.lt)
      have HB4 := Lib.hid (HB3.out.trans (hb4.mono (by have := HX3.out.lt; omega)))
      have hO : w4.ownsRow (B + 1) 3 1 (.slice (some ⟨B + 1, 0, none⟩) n n) n (ints (histL f n k)) := by
        have := HO4
        unfold Own at this
        rw [histL_length] at this
        exact this
      have hcell : w4.cell? ⟨B + 1, m, none⟩ = some (.int .i64 ((histL f n k).getD m 0)) := by
        rw [hO.cellAt m (by omega), ints_get _ _ (by rw [histL_length]; omega)]
      have hfr : w4.frozen? ⟨B + 1, m, none⟩ = false := hO.frozenAt _
      have hst := hO.stored m (.int .i64 ((histL f n k).getD m 0 + 1))
      rw [ints_set, HST.out] at hst
      have HS := Lib.hid hst
      clear hO hst HO4 hb4 e1 r3 l3 l4 HO3 HR3 HX3 HB3 HST
      generalize (histL f n k).getD m 0 = x at *
      go_wp2
      go_roundw
      case rel =>
        refine ⟨k + 1, by omega, by go_num, ?_, ?_, ?_, ?_⟩
        · rw [Hid, Own, histL_length]
          exact HS.out.1
        · refine HR4.out.same fun i hi => HS.out.2.block i (HR4.out.lt i hi).2 ?_
          have := (HR4.out.lt i hi).1
          simp
          omega
        · exact (HS.out.2.block B HX4.out.lt (by simp)).trans HX4.out
        · exact HB4.out.grown HS.out.2 (by have := HX4.out.lt; omega) (by simp)
      case measure => simp [intOf]; omega
    · obtain rfl : k = N := by omega
      go_wp2
      go_ret
      exact ⟨_, rfl, by rw [HB.out]; exact own_less hown.out (by omega), by rw [HB.out]; exact hbl.out⟩

set_option maxRecDepth 10000 in
set_option maxHeartbeats 2000000 in
theorem cnS_any (n : Nat) (w : World) (h3 : 3 ≤ n) (h7 : n ≤ 7) :
    Calls Try.prog 71 #[.int .i64 (n : Int)] w fun e w' => ∃ v, e = .returned v ∧ Own w' w.heap.size v (histL (fun j : Nat => fallsL (byL n (j : Int))) n (facM n)) ∧ Below w.heap.size w w' := by
  obtain ⟨i0, hi, hz0, hz1, hz2⟩ := info_parts int_info
  obtain ⟨hf1, hf2, hf3, hf4⟩ := facM_eq7 n h3 h7
  have HFM := Lib.hid hf1
  obtain ⟨N, hN⟩ : ∃ N, N = facM n := ⟨_, rfl⟩
  rw [← hN] at HFM hf2 hf3 ⊢
  have HFACT := Lib.hid (fun W => facS_nat (n - 1) ((n : Int) - 1) W (by omega) (by omega))
  rw [← HFM.out] at HFACT
  have HBY := Lib.hid (fun (k : Nat) (hk : k < N) W => byS_any n (k : Int) W h3 h7 (by omega) (by have := HFM.out; omega))
  have HBD : ∀ k : Nat, k < N → 0 ≤ fallsL (byL n (k : Int)) ∧ fallsL (byL n (k : Int)) < n := fun k hk => by
    have := falls_bd (byL n (k : Int)) (byL_tell n k h3 h7 (by omega))
    rw [byL_length] at this
    exact this
  have HLN := Lib.hid (fun k : Nat => byL_length n (k : Int))
  have HFA := Lib.hid (fun (k : Nat) (hk : k < N) A c H V (hV : Rd V H A n (byL n (k : Int))) => fallsS_any A n c H (byL n (k : Int)) V hV (by omega) h7)
  obtain ⟨f, hf⟩ : ∃ f : Nat → Int, f = fun j : Nat => fallsL (byL n (j : Int)) := ⟨_, rfl⟩
  have HBD' : Hid (∀ k : Nat, k < N → 0 ≤ f k ∧ f k < n) := by rw [hf]; exact HBD
  have HFA' : Hid (∀ (k : Nat) (_ : k < N) A c H V (_ : Rd V H A n (byL n (k : Int))), Calls Try.prog 61 #[.slice A n c] V fun e w' => e = .returned (.int .i64 (f k)) ∧ ∃ p, w' = V.drewN p) := by rw [hf]; exact HFA
  rw [← hf]
  clear hf HBD HFA hf1 hf4 hN
  go_enter Try.func71, Try.ntmps71
  go_wp2_with (at_make; refine wpList_make_full _ rfl _ _ 23 rfl w.heap.size 3 i0 (.int .i64 0) 1 Try.underlying23 hi hz0 hz1 .i64 .i64 _ _ n rfl rfl rfl rfl (by rw [hz2]; omega) (by unfold maxLen; omega) (Nat.le_refl _) ?_)
  intro w1 hown hgrow
  have HB1 : Hid (Below w.heap.size w w1) := (Below.refl _ _).grown hgrow (Nat.le_refl _) (by simp)
  have HO1 : Hid (Own w1 w.heap.size (.slice (some ⟨w.heap.size, 0, none⟩) n n) (histL f n 0)) := by
    rw [Hid, histL_zero]
    unfold Own
    rw [List.length_replicate]
    have e : ints (List.replicate n 0) = (madeCells #[Value.int IntKind.i64 0] n).toList := by
      rw [toList_madeCells_one]
      simp [ints]
    rw [e]
    exact hown
  clear hown hgrow
  generalize hB : w.heap.size = B at *
  have HB := Lib.hid hB
  clear hB
  go_wp2
  go_loopw [4] (fun i wr => ∃ k : Nat, k ≤ N ∧ i = .int .i64 k ∧ Hid (Own wr B (.slice (some ⟨B, 0, none⟩) n n) (histL f n k)) ∧ Hid (Below B w wr)) (fun i _ => N - (intOf i).toNat)
  case atStart => exact ⟨0, Nat.zero_le _, rfl, HO1, HB1⟩
  case round =>
    obtain ⟨k, hk, rfl, hown, hbl⟩ := hrel
    clear HO1 HB1
    have hsB : B < wr.heap.size := (hown.out.lt _ rfl).2
    go_wp2_with fail
    refine (HFACT.out _).mono ?_
    rintro e w' ⟨rfl, rfl⟩
    by_cases hlt : k < N
    · have HBK := Lib.hid (HBY.out k hlt)
      have hbd := HBD'.out k hlt
      obtain ⟨m, hm⟩ : ∃ m : Nat, f k = (m : Int) := ⟨(f k).toNat, by omega⟩
      have hmn : m < n := by omega
      have HST := Lib.hid (histL_step f n k m hmn hm)
      have hcb := histL_bd f n k m hmn
      have HFK := Lib.hid (HFA'.out k hlt)
      rw [hm] at HFK
      clear hbd hm
      go_wp2_with fail
      refine (HBK.out _).mono ?_
      rintro e w2 ⟨v2, rfl, ho2, hb2⟩
      obtain ⟨A2, c2, rfl⟩ := ho2.slice
      rw [HLN.out]
      have hrd : Rd w2 w2.heap.size A2 n (byL n (k : Int)) := by have := ho2.rd.2; rw [HLN.out] at this; exact this
      have HFW := Lib.hid (HFK.out A2 c2 w2.heap.size w2 hrd)
      have HO2 := Lib.hid (hown.out.keep2 hb2)
      have HB2 := Lib.hid (hbl.out.trans (hb2.mono (by omega)))
      clear ho2 hb2 hrd HFK hown hbl
      go_wp2_with fail
      refine HFW.out.mono ?_
      rintro e w3 ⟨rfl, p, rfl⟩
      have hO : (w2.drewN p).ownsRow B 3 1 (.slice (some ⟨B, 0, none⟩) n n) n (ints (histL f n k)) := by
        have := HO2.out.keep2 (below_drewN (Below.refl w2.heap.size w2) p)
        unfold Own at this
        rw [histL_length] at this
        exact this
      have HB3 := Lib.hid (below_drewN HB2.out p)
      clear HO2 HB2 HFW
      generalize w2.drewN p = w3 at *
      have hs3 : B < w3.heap.size := (hO.lt _ rfl).2
      have hcell : w3.cell? ⟨B, m, none⟩ = some (.int .i64 ((histL f n k).getD m 0)) := by
        rw [hO.cellAt m (by omega), ints_get _ _ (by rw [histL_length]; omega)]
      have hfr : w3.frozen? ⟨B, m, none⟩ = false := hO.frozenAt _
      have hst := hO.stored m (.int .i64 ((histL f n k).getD m 0 + 1))
      rw [ints_set, HST.out] at hst
      have HS := Lib.hid hst
      clear hO hst HST
      generalize (histL f n k).getD m 0 = x at *
      go_wp2
      go_roundw
      case rel => exact ⟨k + 1, by omega, by go_num, by rw [Hid, Own, histL_length]; exact HS.out.1, HB3.out.grown HS.out.2 (by omega) (by simp)⟩
      case measure => simp [intOf]; omega
    · obtain rfl : k = N := by omega
      go_wp2
      go_ret
      exact ⟨_, rfl, by rw [HB.out]; exact hown.out, by rw [HB.out]; exact hbl.out⟩

def wcB (n : Int) : Bool := decide (3 ≤ n) && decide (n ≤ 7)
def wcR (n : Int) : List Int := if wcB n then histL (fun j : Nat => fallsL (byL n.toNat (j : Int))) n.toNat (facM n.toNat) else []
theorem wcR_length (n : Int) : (wcR n).length ≤ 7 := by
  unfold wcR
  split
  · rename_i h
    simp [wcB] at h
    rw [histL_length]
    omega
  · simp

theorem wcS_any (n : Int) (w : World) :
    Calls Try.prog 24 #[.int .i64 n] w fun e w' => ∃ v, e = .returned (.tuple #[v, .bool (wcB n)]) ∧ Own w' w.heap.size v (wcR n) ∧ Below w.heap.size w w' := by
  have HI := Lib.hid (in_any n 3 7 w)
  have e0 : (decide (3 ≤ n) && decide (n ≤ 7)) = wcB n := rfl
  rw [e0] at HI
  clear e0
  by_cases h : wcB n = true
  · have h' := h
    simp [wcB] at h'
    rw [wcR, if_pos h, h]
    rw [h] at HI
    obtain ⟨m, rfl⟩ : ∃ m : Nat, n = m := ⟨n.toNat, by omega⟩
    rw [Int.toNat_natCast]
    have HC := Lib.hid (cnS_any m w (by omega) (by omega))
    generalize histL (fun j : Nat => fallsL (byL m (j : Int))) m (facM m) = C at *
    clear h h'
    go_enter Try.func24, Try.ntmps24
    go_wp2_with fail
    refine HI.out.mono ?_
    rintro e w' ⟨rfl, rfl⟩
    go_wp2_with fail
    refine HC.out.mono ?_
    rintro e w2 ⟨v, rfl, ho, hb⟩
    have HO := Lib.hid ho
    have HB := Lib.hid hb
    clear ho hb
    go_wp2
    go_ret2
    exact ⟨v, rfl, HO.out, HB.out⟩
  · have h' : wcB n = false := by simpa using h
    rw [wcR, if_neg h, h']
    rw [h'] at HI
    clear h h'
    go_enter Try.func24, Try.ntmps24
    go_wp2_with fail
    refine HI.out.mono ?_
    rintro e w' ⟨rfl, rfl⟩
    go_wp2_with fail
    refine (none_any w).mono ?_
    rintro e w2 ⟨v, rfl, ho, hb⟩
    have HO := Lib.hid ho
    have HB := Lib.hid hb
    clear ho hb
    go_wp2
    go_ret2
    exact ⟨v, rfl, HO.out, HB.out⟩

theorem wcI_any (n : Int) (w : World) :
    Calls Try.prog 23 #[.int .i64 n] w fun e w' => ∃ v, e = .returned (.tuple #[v, .bool (wcB n)]) ∧ Own w' w.heap.size v (wcR n) ∧ Below w.heap.size w w' := by
  have HI := Lib.hid (sizeIn_any n w)
  have e0 : (decide (3 ≤ n) && decide (n ≤ 7)) = wcB n := rfl
  rw [e0] at HI
  clear e0
  by_cases h : wcB n = true
  · have h' := h
    simp [wcB] at h'
    rw [wcR, if_pos h, h]
    rw [h] at HI
    obtain ⟨m, rfl⟩ : ∃ m : Nat, n = m := ⟨n.toNat, by omega⟩
    rw [Int.toNat_natCast]
    have HNB := Lib.hid (numbered_any m 0 w (by omega) (by omega) (by omega) (by have := (facM_eq7 m (by omega) (by omega)); omega))
    rw [byL_zero m (by omega)] at HNB
    have HC := Lib.hid (fun W => tcI_any m (upFrom 0 m) W (by omega) (by omega) (upFrom_tell m (by omega) (by omega)) (by simp))
    rw [counts_eq m (by omega) (by omega)] at HC
    generalize histL (fun j : Nat => fallsL (byL m (j : Int))) m (facM m) = C at *
    clear h h'
    unfold agp at HNB HC
    generalize padR (upFrom 0 m) = P at *
    go_enter Try.func23, Try.ntmps23
    go_wp2_with fail
    refine HI.out.mono ?_
    rintro e w' ⟨rfl, rfl⟩
    go_wp2_with fail
    refine HNB.out.mono ?_
    rintro e w1 ⟨rfl, hb1⟩
    have HB1 := Lib.hid hb1
    clear hb1
    go_wp2_with fail
    refine (HC.out w1).mono ?_
    rintro e w2 ⟨v, rfl, ho, hb⟩
    have HO := Lib.hid (own_less ho HB1.out.size)
    have HB := Lib.hid (HB1.out.trans (hb.mono HB1.out.size))
    clear ho hb
    go_wp2
    go_ret2
    exact ⟨v, rfl, HO.out, HB.out⟩
  · have h' : wcB n = false := by simpa using h
    rw [wcR, if_neg h, h']
    rw [h'] at HI
    clear h h'
    go_enter Try.func23, Try.ntmps23
    go_wp2_with fail
    refine HI.out.mono ?_
    rintro e w' ⟨rfl, rfl⟩
    go_wp2
    go_ret2
    exact ⟨.slice none 0 0, rfl, own_nil _ _, Below.refl _ _⟩
end Go.Proofs.Ytbfdbnminjhocaa
