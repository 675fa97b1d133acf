/- The program's ring by its number. -/
import Derived.Test.YtgojojoanhilnabDoorByM
import Derived.Test.YtgojojoanhilnabDoorDel
import Derived.Laws.IdiomCopy
namespace Go.Proofs.YtgojojoanhilnabDoor
open Go.ChangeShapes Go.WideShapes Go.ChangeAt Go.RowKit

theorem setCells_row (g : Nat) (t : TypeId) : ∀ (vs : List Value) (o : Nat) (w : World) (cur : Array Value), w.heap[g]? = some (.cells cur t (0, 0)) →
    ∃ cur' : Array Value, (w.setCells g o vs).heap[g]? = some (.cells cur' t (0, 0)) ∧ cur'.size = cur.size ∧ (∀ j, j < vs.length → o + j < cur.size → cur'[o + j]? = vs[j]?) ∧ (∀ j, j < o → cur'[j]? = cur[j]?) ∧
      w.grownBy (w.setCells g o vs) (some g)
  | [], o, w, cur, h => ⟨cur, h, rfl, fun j hj => absurd hj (by simp), fun _ _ => rfl, World.grownBy.refl _ _⟩
  | v :: vs, o, w, cur, h => by
    obtain ⟨c1, h1, h2, h3, h4, h5⟩ := setCells_row g t vs (o + 1) (w.setCell ⟨g, o, none⟩ v) (cur.setIfInBounds o v) (heap_setCell_same w g o cur t v h)
    have hg1 : w.grownBy (w.setCell ⟨g, o, none⟩ v) (some g) := ⟨rfl, rfl, rfl, by simp [World.setCell], fun i _ hne => Below.heap_setCell _ _ _ _ (fun e => hne (by simp [e]))⟩
    refine ⟨c1, h1, by rw [h2]; simp, fun j hj hs => ?_, fun j hj => ?_, hg1.trans h5⟩
    · rcases j with _ | j
      · rw [Nat.add_zero, h4 o (by omega)]
        simp at hs ⊢
        simp [hs]
      · have := h3 j (by simpa using hj) (by simp; omega)
        rw [show o + 1 + j = o + (j + 1) by omega] at this
        simpa using this
    · rw [h4 j (by omega), Array.getElem?_setIfInBounds, if_neg (by omega)]

theorem delete_any (g n cap B q : Nat) (L : List Int) (qv jv : Int) (w : World) (h : w.ownsRow B 3 1 (.slice (some ⟨g, 0, none⟩) n cap) n (ints L)) (hl : L.length = n) (hq : q < n) (h1 : qv = q) (h2 : jv = q + 1) :
    Calls Tryd.prog 79 #[.slice (some ⟨g, 0, none⟩) n cap, .int .i64 qv, .int .i64 jv] w fun e w' => e = .returned (.slice (some ⟨g, 0, none⟩) (n - 1) cap) ∧
      w'.ownsRow B 3 1 (.slice (some ⟨g, 0, none⟩) (n - 1) cap) (n - 1) (ints (L.eraseIdx q)) ∧ w.grownBy w' (some g) := by
  subst h1
  obtain rfl : jv = ((q + 1 : Nat) : Int) := by omega
  rcases h.2 with ⟨e, _⟩ | ⟨g', cap', cur, e, hB, hh, hnc, hcm, hcs, ht⟩
  · simp at e
  · simp only [Value.slice.injEq, Option.some.injEq, Addr.mk.injEq, and_true, true_and] at e
    obtain ⟨rfl, rfl⟩ := e
    unfold maxLen at hcm
    refine (Tryd.slices_Delete_int_cells g 0 n cap q (q + 1) L w (by omega) hnc (by omega) (by omega) (by omega) (fun j hj => by rw [Nat.zero_add, h.cellAt j (by omega), ints_get _ _ hj]) (fun j _ => frozen_of_row w g _ cur _ hh)).mono ?_
    rintro e w' ⟨rfl, nq, rfl⟩
    rw [show q + 1 - q = 1 by omega]
    refine ⟨rfl, ?_⟩
    have hX : (L.take n).take q ++ (L.take n).drop (q + 1) ++ List.replicate 1 0 = L.eraseIdx q ++ [0] := by
      rw [List.take_of_length_le (by omega : L.length ≤ n), List.eraseIdx_eq_take_drop_succ]
      rfl
    rw [hX]
    have hel : (L.eraseIdx q).length = n - 1 := by rw [List.length_eraseIdx, if_pos (by omega)]; omega
    obtain ⟨c1, g1, g2, g3, _, g5⟩ := setCells_row g 3 ((L.eraseIdx q ++ [0]).map (Value.int .i64)) 0 (w.drewN nq) cur hh
    refine ⟨⟨by rw [ints_length, hel]; omega, .inr ⟨g, cap, c1, rfl, hB, g1, by omega, by unfold maxLen; omega, by rw [g2]; exact hcs, ?_⟩⟩, ?_⟩
    · apply List.ext_getElem?
      intro j
      rw [List.getElem?_take]
      by_cases hj : j < (n - 1) * 1
      · rw [if_pos hj, Array.getElem?_toList]
        have := g3 j (by simp; omega) (by omega)
        rw [Nat.zero_add] at this
        rw [this, List.getElem?_map, List.getElem?_append_left (by omega), ints, List.getElem?_map]
      · rw [if_neg hj, List.getElem?_eq_none (by rw [ints_length]; omega)]
    · exact ⟨g5.os, g5.tape, g5.output, g5.size, g5.block⟩

/-- The array half filled by numbers. -/
theorem pad_out (out : List Int) (i : Nat) (x : Int) (hl : out.length = i) (hi : i < 7) : (padR out).set i x = padR (out ++ [x]) := by
  unfold padR
  rw [List.set_append_right _ _ (by omega), hl, Nat.sub_self]
  obtain ⟨m, hm⟩ : ∃ m, 7 - i = m + 1 := ⟨7 - i - 1, by omega⟩
  rw [hm, List.replicate_succ, List.set_cons_zero, List.append_assoc]
  simp [hl]
  omega

set_option maxHeartbeats 2000000 in
theorem numbered_any (n : Nat) (k0 : Int) (w : World) (h3 : 3 ≤ n) (h7 : n ≤ 7) (h0 : 0 ≤ k0) (hk : k0 < facN n) :
    Calls Tryd.prog 68 #[.int .i64 (n : Int), .int .i64 k0] w fun e w' => e = .returned (agp (byL n k0)) ∧ Below w.heap.size w w' := by
  obtain ⟨i0, hi, hz0, hz1, hz2⟩ := info_parts int_info
  have hC7 : (padR (byL n k0)).length = 7 := padR_length _ (by rw [byL_length]; exact h7)
  have HC7 := Lib.hid hC7
  have hC0 : ([] : List Int) ++ takeBy (n - 0) (upFrom 0 n) k0 = byL n k0 := rfl
  have HC0 := Lib.hid hC0
  have HK0 := Lib.hid hk
  clear hC7 hC0 hk
  generalize hC : byL n k0 = C at *
  clear hC
  go_enter Tryd.func68, Tryd.ntmps68
  go_wp2_with fail
  obtain ⟨W0, hW0⟩ : ∃ W, W = w.alloc (.cells #[.int .i64 0, .int .i64 0, .int .i64 0, .int .i64 0, .int .i64 0, .int .i64 0, .int .i64 0] 49) := ⟨_, rfl⟩
  rw [← hW0]
  have hs0 : W0.heap.size = w.heap.size + 1 := by rw [hW0]; simp
  have hb0 : Below w.heap.size w W0 := by rw [hW0]; exact (Below.refl _ _).alloc (Nat.le_refl _) _
  have ha0 : Arr W0 w.heap.size zero7 := by rw [hW0]; exact new_ring w
  clear hW0
  generalize hB : w.heap.size = B at *
  have HB := Lib.hid hB
  clear hB
  refine (empty_any W0).mono ?_
  rintro e W1 ⟨rfl, hb⟩
  have hb1 : Below B w W1 := hb0.trans (hb.mono (by omega))
  have ha1 := ha0.below hb (by omega)
  have hs1 : B < W1.heap.size := by have := hb.size; omega
  clear hb hb0 ha0 hs0
  have k1 : Arr (W1.alloc (.cells #[.int .i64 (-1), .int .i64 (-1), .int .i64 (-1), .int .i64 (-1), .int .i64 (-1), .int .i64 (-1), .int .i64 (-1)] 49)) W1.heap.size neg7 := heap_alloc_new W1 _
  have k2 : Arr (W1.alloc (.cells #[.int .i64 (-1), .int .i64 (-1), .int .i64 (-1), .int .i64 (-1), .int .i64 (-1), .int .i64 (-1), .int .i64 (-1)] 49)) B zero7 := ha1.alloc _
  have k3 : Below B w (W1.alloc (.cells #[.int .i64 (-1), .int .i64 (-1), .int .i64 (-1), .int .i64 (-1), .int .i64 (-1), .int .i64 (-1), .int .i64 (-1)] 49)) := hb1.alloc (by omega) _
  have K1 := Lib.hid k1
  have K2 := Lib.hid k2
  have K3 := Lib.hid k3
  clear k1 k2 k3 ha1 hb1
  go_wp2_with (at_make; refine wpList_make_full _ rfl _ _ 26 rfl B 3 i0 (.int .i64 0) 1 Tryd.underlying26 hi hz0 hz1 .i64 .i64 _ _ n rfl rfl rfl rfl (by rw [hz2]; omega) (by unfold maxLen; omega) (by simp; omega) ?_)
  intro W3 hown3 hg3
  have ho3 : W3.ownsRow B 3 1 (.slice (some ⟨W1.heap.size + 1, 0, none⟩) n n) n (ints (half (upFrom 0 n) n 0)) := by
    have e : ints (half (upFrom 0 n) n 0) = (madeCells #[Value.int IntKind.i64 0] n).toList := by
      rw [half_zero, toList_madeCells_one]
      simp [ints]
    rw [e]
    simpa using hown3
  have HG3 : Hid (Arr W3 W1.heap.size neg7) := (hg3.block W1.heap.size (by simp) (by simp)).trans K1.out
  have HR3 : Hid (Arr W3 B zero7) := (hg3.block B (by simp; omega) (by simp)).trans K2.out
  have hb3 : Below B w W3 := K3.out.grown hg3 (by simp; omega) (by simp)
  clear hown3 hg3 K1 K2 K3
  generalize W1.heap.size = G at *
  go_wp2_with fail
  go_loopw [16] (fun i wr => ∃ k : Nat, k ≤ n ∧ i = .int .i64 k ∧ Hid (wr.ownsRow B 3 1 (.slice (some ⟨G + 1, 0, none⟩) n n) n (ints (half (upFrom 0 n) n k))) ∧ Hid (Arr wr G neg7) ∧ Hid (Arr wr B zero7) ∧ Below B w wr) (fun i _ => n - (intOf i).toNat)
  case atStart => exact ⟨0, Nat.zero_le _, rfl, ho3, HG3, HR3, hb3⟩
  case round =>
    obtain ⟨k, hk, rfl, hown, hG, hR, hbl⟩ := hrel
    clear ho3 HG3 HR3 hb3
    by_cases hlt : k < n
    · have hst := hown.out.stored k (.int .i64 (k : Int))
      have hsp := half_step (upFrom 0 n) n k (by simp) hlt
      rw [upFrom_get 0 n k hlt, Int.zero_add] at hsp
      rw [ints_set, hsp] at hst
      have hcell : wr.cell? ⟨G + 1, k, none⟩ = some (.int .i64 ((half (upFrom 0 n) n k).getD k 0)) := by
        rw [hown.out.cellAt k (by omega), ints_get _ _ (by rw [half_length _ n k (by simp) hk]; exact hlt)]
      have hfr : wr.frozen? ⟨G + 1, k, none⟩ = false := hown.out.frozenAt _
      have HS := Lib.hid hst
      clear hst hsp
      generalize (half (upFrom 0 n) n k).getD k 0 = old at hcell
      go_wp2
      go_roundw
      case rel => exact ⟨k + 1, by omega, by go_num, HS.out.1, Lib.hid (hG.out.far (by simp) _), Lib.hid (hR.out.far (by simp; omega) _), hbl.setCell (by simp; omega) _⟩
      case measure => simp [intOf]; omega
    · obtain rfl : k = n := by omega
      have hown2 := hown.out
      rw [half_full _ k (by simp)] at hown2
      have HO2 := Lib.hid hown2
      clear hown hown2
      go_wp2
      obtain ⟨wo, rfl⟩ : ∃ wo : World, wo = wr := ⟨_, rfl⟩
      go_loopw [1, 6, 25] (fun kk v i wr => ∃ (j : Nat) (out left : List Int) (q : Int), j ≤ k ∧ i = .int .i64 j ∧ kk = .int .i64 q ∧ v = .slice (some ⟨G + 1, 0, none⟩) (k - j) k ∧ 0 ≤ q ∧
          Hid (q < facN (k - j) ∧ out.length = j ∧ left.length = k - j ∧ out ++ takeBy (k - j) left q = C) ∧ Hid (wr.ownsRow B 3 1 (.slice (some ⟨G + 1, 0, none⟩) (k - j) k) (k - j) (ints left)) ∧
          Hid (Arr wr G (padR out)) ∧ Hid (Arr wr B zero7) ∧ Below B w wr) (fun _ _ i _ => k - (intOf i).toNat)
      case atStart => exact ⟨0, [], upFrom 0 k, k0, Nat.zero_le _, rfl, rfl, by simp, h0, ⟨by simpa using HK0.out, rfl, by simp, HC0.out⟩, by simpa using HO2, hG, hR, hbl⟩
      case round =>
        obtain ⟨j, out, left, q, hj, rfl, rfl, rfl, hq0, hall, hown, hG2, hR2, hbl2⟩ := hrel
        clear HO2 hG hR hbl HK0 HC0
        by_cases hjk : j < k
        · obtain ⟨m, hm⟩ : ∃ m, k - j = m + 1 := ⟨k - j - 1, by omega⟩
          rw [hm] at hall hown
          obtain ⟨hqf, hol, hll, hct⟩ := hall.out
          have hmb := place_bd m q (by omega) hq0 hqf
          rw [takeBy] at hct
          have hfb := facN_bd m
          obtain ⟨f, hf⟩ : ∃ f, f = facN m := ⟨_, rfl⟩
          rw [← hf] at hmb hct hfb
          obtain ⟨pl, hpl⟩ : ∃ pl : Nat, q / f = (pl : Int) := ⟨(q / f).toNat, by omega⟩
          obtain ⟨r, hr⟩ : ∃ r, r = q % f := ⟨_, rfl⟩
          rw [hpl, ← hr, Int.toNat_natCast] at hct
          obtain ⟨hp0, hp1, hr0, hr1⟩ := hmb
          rw [← hr] at hr0 hr1
          rw [hpl] at hp1
          have hplm : pl ≤ m := by omega
          obtain ⟨hf1, hf2⟩ := hfb
          have hquo : wrap64 (q.tdiv f) = (pl : Int) := by
            rw [Int.tdiv_eq_ediv_of_nonneg hq0, hpl]
            exact IntWalk.wrap64_in _ ⟨by omega, by omega⟩
          have hcx : wr.cell? ⟨G + 1, pl, none⟩ = some (.int .i64 (left.getD pl 0)) := by
            rw [hown.out.cellAt pl (by omega), ints_get _ _ (by omega)]
          have hp7 : (padR out).length = 7 := padR_length _ (by omega)
          have hcg := hG2.out.cell (i := j) (by omega)
          have hfg := hG2.out.frozen j
          have hst := hG2.out.set_ j (left.getD pl 0)
          rw [pad_out out j _ hol (by omega)] at hst
          have HST := Lib.hid hst
          have hgs : wr.grownBy (wr.setCell ⟨G, j, none⟩ (.int .i64 (left.getD pl 0))) (some G) := ⟨rfl, rfl, rfl, by simp [World.setCell], fun i _ hne => Below.heap_setCell _ _ _ _ (fun e => hne (by simp [e]))⟩
          have HOW := Lib.hid (hown.out.kept hgs (by simp [Value.ownBlock]))
          have HRR := Lib.hid (hR2.out.far (p := ⟨G, j, none⟩) (by simp; omega) (.int .i64 (left.getD pl 0)))
          have HBL := Lib.hid (hbl2.setCell (p := ⟨G, j, none⟩) (by simp; omega) (.int .i64 (left.getD pl 0)))
          have HLL := Lib.hid hll
          have HCT : Hid ((out ++ [left.getD pl 0]) ++ takeBy m (left.eraseIdx pl) r = C) := by
            rw [Hid, List.append_assoc]; exact hct
          have HOL : Hid ((out ++ [left.getD pl 0]).length = j + 1) := by rw [Hid, List.length_append, hol]; rfl
          have HEL : Hid ((left.eraseIdx pl).length = m) := by rw [Hid, List.length_eraseIdx, if_pos (by omega)]; omega
          have HF := Lib.hid hf
          have hrr := hr.symm
          have HRE := Lib.hid hrr
          have hm6 : m ≤ 6 := by omega
          have HRF : Hid (r < facN m) := by rw [Hid, ← HF.out]; exact hr1
          have hkj : Hid (k - (j + 1) = m) := by rw [Hid]; omega
          have hm1 : ((k : Int) - 1 - (j : Int)) = (m : Int) := by omega
          have HM1 := Lib.hid hm1
          have hmj : m + 1 + j = k := by omega
          clear hall hown hqf hol hll hct hf hr hst hp7 hgs hG2 hR2 hbl2 hr1 hm1
          generalize (padR out).getD j 0 = old at hcg
          generalize hx : left.getD pl 0 = x at *
          clear hx
          rw [hm]
          have hmj2 := Lib.hid hmj
          have hjm : j ≤ k := by omega
          clear hmj hm
          go_wp2_with fail
          refine (facI_nat m _ _ HM1.out (by have := hmj2.out; omega)).mono ?_
          rintro e w' ⟨rfl, rfl⟩
          rw [← HF.out]
          go_wp2_with fail
          refine (delete_any (G + 1) (m + 1) k B pl left _ _ _ HOW.out HLL.out (by omega) (by first | rfl | omega) (by first | rfl | omega)).mono ?_
          rintro e w5 ⟨rfl, ho5, hg5⟩
          have HO5 := Lib.hid ho5
          have hs5 := hg5.size
          have HG5 := Lib.hid (HST.out.grown hg5 (by omega))
          have HR5 := Lib.hid (HRR.out.grown hg5 (by omega))
          have HB5 := Lib.hid (HBL.out.grown hg5 (by have := HRR.out.lt; omega) (by simp; omega))
          clear ho5 hg5 hquo hrr hcx hcg hfg
          go_wp2
          go_roundw
          case rel =>
            refine ⟨j + 1, out ++ [x], left.eraseIdx pl, r, by have := hmj2.out; omega, by go_num, by first | rfl | rw [HRE.out], by rw [hkj.out], hr0, ?_, ?_, HG5, HR5, HB5⟩
            · rw [hkj.out]
              exact ⟨HRF.out, HOL.out, HEL.out, HCT.out⟩
            · rw [hkj.out]
              exact HO5
          case measure => have := hmj2.out; simp [intOf]; omega
        · obtain rfl : j = k := by omega
          have hCe : Hid (out = C) := by
            have := hall.out.2.2.2
            rw [Nat.sub_self, takeBy, List.append_nil] at this
            exact this
          rw [hCe.out] at hG2
          have hlr := hR2.out.lt
          go_wp2_with (first
            | (refine load_ring rfl _ rfl G (padR C) HC7.out rfl hG2 ?_)
            | (refine store_ring rfl _ _ rfl B zero7 (padR C) rfl HC7.out rfl rfl hR2 ?_; intro w6 HB6 hg6 _))
          try simp only [Exit.inBlock, Exit.then]
          exact ret_ring rfl B (padR C) HC7.out rfl HB6 rfl ⟨rfl, by rw [HB.out]; exact hbl2.grown hg6 (by omega) (by simp)⟩
end Go.Proofs.YtgojojoanhilnabDoor
