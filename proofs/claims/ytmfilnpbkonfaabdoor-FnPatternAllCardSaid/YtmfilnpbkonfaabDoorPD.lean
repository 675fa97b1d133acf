/- Several texts as one: ByI ByS EachM AllR. -/
import Derived.Test.YtmfilnpbkonfaabDoorPR
import Derived.Test.YtmfilnpbkonfaabDoorDel
import Derived.Laws.IdiomCopy
import Derived.Deep.RegionLaw
import Derived.IntWalk
import Derived.Maps.AppendAt
import Derived.Test.YtmfilnpbkonfaabDoorPE
import Derived.Deep.RegionHeld3
namespace Go.Proofs.YtmfilnpbkonfaabDoor
open Go.ChangeShapes Go.WideShapes Go.ChangeAt Go.RowKit

theorem setCells_row (g : Nat) (t : TypeId) : ∀ (vs : List Value) (o : Nat) (w : World) (cur : Array Value), w.heap[g]? = some (.cells cur t (0, 0)) →
    ∃ cur' : Array Value, (w.setCells g o vs).heap[g]? = some (.cells cur' t (0, 0)) ∧ cur'.size = cur.size ∧ (∀ j, j < vs.length → o + j < cur.size → cur'[o + j]? = vs[j]?) ∧ (∀ j, j < o → cur'[j]? = cur[j]?) ∧
      w.grownBy (w.setCells g o vs) (some g)
  | [], o, w, cur, h => ⟨cur, h, rfl, fun j hj => absurd hj (by simp), fun _ _ => rfl, World.grownBy.refl _ _⟩
  | v :: vs, o, w, cur, h => by
    obtain ⟨c1, h1, h2, h3, h4, h5⟩ := setCells_row g t vs (o + 1) (w.setCell ⟨g, o, none⟩ v) (cur.setIfInBounds o v) (heap_setCell_same w g o cur t v h)
    have hg1 : w.grownBy (w.setCell ⟨g, o, none⟩ v) (some g) := ⟨rfl, rfl, rfl, by simp [World.setCell], fun i _ hne => Below.heap_setCell _ _ _ _ (fun e => hne (by simp [e]))⟩
    refine ⟨c1, h1, by rw [h2]; simp, fun j hj hs => ?_, fun j hj => ?_, hg1.trans h5⟩
    · rcases j with _ | j
      · rw [Nat.add_zero, h4 o (by omega)]
        simp at hs ⊢
        simp [hs]
      · have := h3 j (by simpa using hj) (by simp; omega)
        rw [show o + 1 + j = o + (j + 1) by omega] at this
        simpa using this
    · rw [h4 j (by omega), Array.getElem?_setIfInBounds, if_neg (by omega)]

theorem delete_any (g n cap B q : Nat) (L : List Int) (qv jv : Int) (w : World) (h : w.ownsRow B 3 1 (.slice (some ⟨g, 0, none⟩) n cap) n (ints L)) (hl : L.length = n) (hq : q < n) (h1 : qv = q) (h2 : jv = q + 1) :
    Calls Tryd.prog 74 #[.slice (some ⟨g, 0, none⟩) n cap, .int .i64 qv, .int .i64 jv] w fun e w' => e = .returned (.slice (some ⟨g, 0, none⟩) (n - 1) cap) ∧
      w'.ownsRow B 3 1 (.slice (some ⟨g, 0, none⟩) (n - 1) cap) (n - 1) (ints (L.eraseIdx q)) ∧ w.grownBy w' (some g) := by
  subst h1
  obtain rfl : jv = ((q + 1 : Nat) : Int) := by omega
  rcases h.2 with ⟨e, _⟩ | ⟨g', cap', cur, e, hB, hh, hnc, hcm, hcs, ht⟩
  · simp at e
  · simp only [Value.slice.injEq, Option.some.injEq, Addr.mk.injEq, and_true, true_and] at e
    obtain ⟨rfl, rfl⟩ := e
    unfold maxLen at hcm
    refine (Tryd.slices_Delete_int_cells g 0 n cap q (q + 1) L w (by omega) hnc (by omega) (by omega) (by omega) (fun j hj => by rw [Nat.zero_add, h.cellAt j (by omega), ints_get _ _ hj]) (fun j _ => frozen_of_row w g _ cur _ hh)).mono ?_
    rintro e w' ⟨rfl, nq, rfl⟩
    rw [show q + 1 - q = 1 by omega]
    refine ⟨rfl, ?_⟩
    have hX : (L.take n).take q ++ (L.take n).drop (q + 1) ++ List.replicate 1 0 = L.eraseIdx q ++ [0] := by
      rw [List.take_of_length_le (by omega : L.length ≤ n), List.eraseIdx_eq_take_drop_succ]
      rfl
    rw [hX]
    have hel : (L.eraseIdx q).length = n - 1 := by rw [List.length_eraseIdx, if_pos (by omega)]; omega
    obtain ⟨c1, g1, g2, g3, _, g5⟩ := setCells_row g 3 ((L.eraseIdx q ++ [0]).map (Value.int .i64)) 0 (w.drewN nq) cur hh
    refine ⟨⟨by rw [ints_length, hel]; omega, .inr ⟨g, cap, c1, rfl, hB, g1, by omega, by unfold maxLen; omega, by rw [g2]; exact hcs, ?_⟩⟩, ?_⟩
    · apply List.ext_getElem?
      intro j
      rw [List.getElem?_take]
      by_cases hj : j < (n - 1) * 1
      · rw [if_pos hj, Array.getElem?_toList]
        have := g3 j (by simp; omega) (by omega)
        rw [Nat.zero_add] at this
        rw [this, List.getElem?_map, List.getElem?_append_left (by omega), ints, List.getElem?_map]
      · rw [if_neg hj, List.getElem?_eq_none (by rw [ints_length]; omega)]
    · exact ⟨g5.os, g5.tape, g5.output, g5.size, g5.block⟩

/-- The array half filled by numbers. -/
theorem pad_out (out : List Int) (i : Nat) (x : Int) (hl : out.length = i) (hi : i < 7) : (padR out).set i x = padR (out ++ [x]) := by
  unfold padR
  rw [List.set_append_right _ _ (by omega), hl, Nat.sub_self]
  obtain ⟨m, hm⟩ : ∃ m, 7 - i = m + 1 := ⟨7 - i - 1, by omega⟩
  rw [hm, List.replicate_succ, List.set_cons_zero, List.append_assoc]
  simp [hl]
  omega

set_option maxHeartbeats 2000000 in
theorem numbered_any (n : Nat) (k0 : Int) (w : World) (h3 : 3 ≤ n) (h7 : n ≤ 7) (h0 : 0 ≤ k0) (hk : k0 < facN n) :
    Calls Tryd.prog 50 #[.int .i64 (n : Int), .int .i64 k0] w fun e w' => e = .returned (agp (byL n k0)) ∧ Below w.heap.size w w' := by
  obtain ⟨i0, hi, hz0, hz1, hz2⟩ := info_parts int_info
  have hC7 : (padR (byL n k0)).length = 7 := padR_length _ (by rw [byL_length]; exact h7)
  have HC7 := Lib.hid hC7
  have hC0 : ([] : List Int) ++ takeBy (n - 0) (upFrom 0 n) k0 = byL n k0 := rfl
  have HC0 := Lib.hid hC0
  have HK0 := Lib.hid hk
  clear hC7 hC0 hk
  generalize hC : byL n k0 = C at *
  clear hC
  go_enter Tryd.func50, Tryd.ntmps50
  go_wp2_with fail
  obtain ⟨W0, hW0⟩ : ∃ W, W = w.alloc (.cells #[.int .i64 0, .int .i64 0, .int .i64 0, .int .i64 0, .int .i64 0, .int .i64 0, .int .i64 0] 48) := ⟨_, rfl⟩
  rw [← hW0]
  have hs0 : W0.heap.size = w.heap.size + 1 := by rw [hW0]; simp
  have hb0 : Below w.heap.size w W0 := by rw [hW0]; exact (Below.refl _ _).alloc (Nat.le_refl _) _
  have ha0 : Arr W0 w.heap.size zero7 := by rw [hW0]; exact new_ring w
  clear hW0
  generalize hB : w.heap.size = B at *
  have HB := Lib.hid hB
  clear hB
  refine (empty_any W0).mono ?_
  rintro e W1 ⟨rfl, hb⟩
  have hb1 : Below B w W1 := hb0.trans (hb.mono (by omega))
  have ha1 := ha0.below hb (by omega)
  have hs1 : B < W1.heap.size := by have := hb.size; omega
  clear hb hb0 ha0 hs0
  have k1 : Arr (W1.alloc (.cells #[.int .i64 (-1), .int .i64 (-1), .int .i64 (-1), .int .i64 (-1), .int .i64 (-1), .int .i64 (-1), .int .i64 (-1)] 48)) W1.heap.size neg7 := heap_alloc_new W1 _
  have k2 : Arr (W1.alloc (.cells #[.int .i64 (-1), .int .i64 (-1), .int .i64 (-1), .int .i64 (-1), .int .i64 (-1), .int .i64 (-1), .int .i64 (-1)] 48)) B zero7 := ha1.alloc _
  have k3 : Below B w (W1.alloc (.cells #[.int .i64 (-1), .int .i64 (-1), .int .i64 (-1), .int .i64 (-1), .int .i64 (-1), .int .i64 (-1), .int .i64 (-1)] 48)) := hb1.alloc (by omega) _
  have K1 := Lib.hid k1
  have K2 := Lib.hid k2
  have K3 := Lib.hid k3
  clear k1 k2 k3 ha1 hb1
  go_wp2_with (at_make; refine wpList_make_full _ rfl _ _ 23 rfl B 3 i0 (.int .i64 0) 1 Tryd.underlying23 hi hz0 hz1 .i64 .i64 _ _ n rfl rfl rfl rfl (by rw [hz2]; omega) (by unfold maxLen; omega) (by simp; omega) ?_)
  intro W3 hown3 hg3
  have ho3 : W3.ownsRow B 3 1 (.slice (some ⟨W1.heap.size + 1, 0, none⟩) n n) n (ints (half (upFrom 0 n) n 0)) := by
    have e : ints (half (upFrom 0 n) n 0) = (madeCells #[Value.int IntKind.i64 0] n).toList := by
      rw [half_zero, toList_madeCells_one]
      simp [ints]
    rw [e]
    simpa using hown3
  have HG3 : Hid (Arr W3 W1.heap.size neg7) := (hg3.block W1.heap.size (by simp) (by simp)).trans K1.out
  have HR3 : Hid (Arr W3 B zero7) := (hg3.block B (by simp; omega) (by simp)).trans K2.out
  have hb3 : Below B w W3 := K3.out.grown hg3 (by simp; omega) (by simp)
  clear hown3 hg3 K1 K2 K3
  generalize W1.heap.size = G at *
  go_wp2_with fail
  go_loopw [16] (fun i wr => ∃ k : Nat, k ≤ n ∧ i = .int .i64 k ∧ Hid (wr.ownsRow B 3 1 (.slice (some ⟨G + 1, 0, none⟩) n n) n (ints (half (upFrom 0 n) n k))) ∧ Hid (Arr wr G neg7) ∧ Hid (Arr wr B zero7) ∧ Below B w wr) (fun i _ => n - (intOf i).toNat)
  case atStart => exact ⟨0, Nat.zero_le _, rfl, ho3, HG3, HR3, hb3⟩
  case round =>
    obtain ⟨k, hk, rfl, hown, hG, hR, hbl⟩ := hrel
    clear ho3 HG3 HR3 hb3
    by_cases hlt : k < n
    · have hst := hown.out.stored k (.int .i64 (k : Int))
      have hsp := half_step (upFrom 0 n) n k (by simp) hlt
      rw [upFrom_get 0 n k hlt, Int.zero_add] at hsp
      rw [ints_set, hsp] at hst
      have hcell : wr.cell? ⟨G + 1, k, none⟩ = some (.int .i64 ((half (upFrom 0 n) n k).getD k 0)) := by
        rw [hown.out.cellAt k (by omega), ints_get _ _ (by rw [half_length _ n k (by simp) hk]; exact hlt)]
      have hfr : wr.frozen? ⟨G + 1, k, none⟩ = false := hown.out.frozenAt _
      have HS := Lib.hid hst
      clear hst hsp
      generalize (half (upFrom 0 n) n k).getD k 0 = old at hcell
      go_wp2
      go_roundw
      case rel => exact ⟨k + 1, by omega, by go_num, HS.out.1, Lib.hid (hG.out.far (by simp) _), Lib.hid (hR.out.far (by simp; omega) _), hbl.setCell (by simp; omega) _⟩
      case measure => simp [intOf]; omega
    · obtain rfl : k = n := by omega
      have hown2 := hown.out
      rw [half_full _ k (by simp)] at hown2
      have HO2 := Lib.hid hown2
      clear hown hown2
      go_wp2
      obtain ⟨wo, rfl⟩ : ∃ wo : World, wo = wr := ⟨_, rfl⟩
      go_loopw [1, 6, 25] (fun kk v i wr => ∃ (j : Nat) (out left : List Int) (q : Int), j ≤ k ∧ i = .int .i64 j ∧ kk = .int .i64 q ∧ v = .slice (some ⟨G + 1, 0, none⟩) (k - j) k ∧ 0 ≤ q ∧
          Hid (q < facN (k - j) ∧ out.length = j ∧ left.length = k - j ∧ out ++ takeBy (k - j) left q = C) ∧ Hid (wr.ownsRow B 3 1 (.slice (some ⟨G + 1, 0, none⟩) (k - j) k) (k - j) (ints left)) ∧
          Hid (Arr wr G (padR out)) ∧ Hid (Arr wr B zero7) ∧ Below B w wr) (fun _ _ i _ => k - (intOf i).toNat)
      case atStart => exact ⟨0, [], upFrom 0 k, k0, Nat.zero_le _, rfl, rfl, by simp, h0, ⟨by simpa using HK0.out, rfl, by simp, HC0.out⟩, by simpa using HO2, hG, hR, hbl⟩
      case round =>
        obtain ⟨j, out, left, q, hj, rfl, rfl, rfl, hq0, hall, hown, hG2, hR2, hbl2⟩ := hrel
        clear HO2 hG hR hbl HK0 HC0
        by_cases hjk : j < k
        · obtain ⟨m, hm⟩ : ∃ m, k - j = m + 1 := ⟨k - j - 1, by omega⟩
          rw [hm] at hall hown
          obtain ⟨hqf, hol, hll, hct⟩ := hall.out
          have hmb := place_bd m q (by omega) hq0 hqf
          rw [takeBy] at hct
          have hfb := facN_bd m
          obtain ⟨f, hf⟩ : ∃ f, f = facN m := ⟨_, rfl⟩
          rw [← hf] at hmb hct hfb
          obtain ⟨pl, hpl⟩ : ∃ pl : Nat, q / f = (pl : Int) := ⟨(q / f).toNat, by omega⟩
          obtain ⟨r, hr⟩ : ∃ r, r = q % f := ⟨_, rfl⟩
          rw [hpl, ← hr, Int.toNat_natCast] at hct
          obtain ⟨hp0, hp1, hr0, hr1⟩ := hmb
          rw [← hr] at hr0 hr1
          rw [hpl] at hp1
          have hplm : pl ≤ m := by omega
          obtain ⟨hf1, hf2⟩ := hfb
          have hquo : wrap64 (q.tdiv f) = (pl : Int) := by
            rw [Int.tdiv_eq_ediv_of_nonneg hq0, hpl]
            exact IntWalk.wrap64_in _ ⟨by omega, by omega⟩
          have hcx : wr.cell? ⟨G + 1, pl, none⟩ = some (.int .i64 (left.getD pl 0)) := by
            rw [hown.out.cellAt pl (by omega), ints_get _ _ (by omega)]
          have hp7 : (padR out).length = 7 := padR_length _ (by omega)
          have hcg := hG2.out.cell (i := j) (by omega)
          have hfg := hG2.out.frozen j
          have hst := hG2.out.set_ j (left.getD pl 0)
          rw [pad_out out j _ hol (by omega)] at hst
          have HST := Lib.hid hst
          have hgs : wr.grownBy (wr.setCell ⟨G, j, none⟩ (.int .i64 (left.getD pl 0))) (some G) := ⟨rfl, rfl, rfl, by simp [World.setCell], fun i _ hne => Below.heap_setCell _ _ _ _ (fun e => hne (by simp [e]))⟩
          have HOW := Lib.hid (hown.out.kept hgs (by simp [Value.ownBlock]))
          have HRR := Lib.hid (hR2.out.far (p := ⟨G, j, none⟩) (by simp; omega) (.int .i64 (left.getD pl 0)))
          have HBL := Lib.hid (hbl2.setCell (p := ⟨G, j, none⟩) (by simp; omega) (.int .i64 (left.getD pl 0)))
          have HLL := Lib.hid hll
          have HCT : Hid ((out ++ [left.getD pl 0]) ++ takeBy m (left.eraseIdx pl) r = C) := by
            rw [Hid, List.append_assoc]; exact hct
          have HOL : Hid ((out ++ [left.getD pl 0]).length = j + 1) := by rw [Hid, List.length_append, hol]; rfl
          have HEL : Hid ((left.eraseIdx pl).length = m) := by rw [Hid, List.length_eraseIdx, if_pos (by omega)]; omega
          have HF := Lib.hid hf
          have hrr := hr.symm
          have HRE := Lib.hid hrr
          have hm6 : m ≤ 6 := by omega
          have HRF : Hid (r < facN m) := by rw [Hid, ← HF.out]; exact hr1
          have hkj : Hid (k - (j + 1) = m) := by rw [Hid]; omega
          have hm1 : ((k : Int) - 1 - (j : Int)) = (m : Int) := by omega
          have HM1 := Lib.hid hm1
          have hmj : m + 1 + j = k := by omega
          clear hall hown hqf hol hll hct hf hr hst hp7 hgs hG2 hR2 hbl2 hr1 hm1
          generalize (padR out).getD j 0 = old at hcg
          generalize hx : left.getD pl 0 = x at *
          clear hx
          rw [hm]
          have hmj2 := Lib.hid hmj
          have hjm : j ≤ k := by omega
          clear hmj hm
          go_wp2_with fail
          refine (facI_nat m _ _ HM1.out (by have := hmj2.out; omega)).mono ?_
          rintro e w' ⟨rfl, rfl⟩
          rw [← HF.out]
          go_wp2_with fail
          refine (delete_any (G + 1) (m + 1) k B pl left _ _ _ HOW.out HLL.out (by omega) (by first | rfl | omega) (by first | rfl | omega)).mono ?_
          rintro e w5 ⟨rfl, ho5, hg5⟩
          have HO5 := Lib.hid ho5
          have hs5 := hg5.size
          have HG5 := Lib.hid (HST.out.grown hg5 (by omega))
          have HR5 := Lib.hid (HRR.out.grown hg5 (by omega))
          have HB5 := Lib.hid (HBL.out.grown hg5 (by have := HRR.out.lt; omega) (by simp; omega))
          clear ho5 hg5 hquo hrr hcx hcg hfg
          go_wp2
          go_roundw
          case rel =>
            refine ⟨j + 1, out ++ [x], left.eraseIdx pl, r, by have := hmj2.out; omega, by go_num, by first | rfl | rw [HRE.out], by rw [hkj.out], hr0, ?_, ?_, HG5, HR5, HB5⟩
            · rw [hkj.out]
              exact ⟨HRF.out, HOL.out, HEL.out, HCT.out⟩
            · rw [hkj.out]
              exact HO5
          case measure => have := hmj2.out; simp [intOf]; omega
        · obtain rfl : j = k := by omega
          have hCe : Hid (out = C) := by
            have := hall.out.2.2.2
            rw [Nat.sub_self, takeBy, List.append_nil] at this
            exact this
          rw [hCe.out] at hG2
          have hlr := hR2.out.lt
          go_wp2_with (first
            | (refine load_ring rfl _ rfl G (padR C) HC7.out rfl hG2 ?_)
            | (refine store_ring rfl _ _ rfl B zero7 (padR C) rfl HC7.out rfl rfl hR2 ?_; intro w6 HB6 hg6 _))
          try simp only [Exit.inBlock, Exit.then]
          exact ret_ring rfl B (padR C) HC7.out rfl HB6 rfl ⟨rfl, by rw [HB.out]; exact hbl2.grown hg6 (by omega) (by simp)⟩
end Go.Proofs.YtmfilnpbkonfaabDoor

namespace Go.Proofs.YtmfilnpbkonfaabDoor
open Go.ChangeShapes Go.WideShapes Go.ChangeAt Go.RowKit

/-- An append onto a row of the call's own, as one step of a region that draws its order. -/
theorem step_append_at {ops : Array Oper} {o : Oper} {a : Act} {K : Act → World → Prop} {Q : Exit → Act → World → Prop} {E : Prop} (w : World) (hgd : o.guard = none) (s x : Operand)
    (ho : o.op = .call { callee := .builtin .append, args := #[s, x], argTypes := #[23, 23] })
    (B : Nat) (v : Value) (n : Nat) (xs : List Value) (hs : a.eval s = v) (hown : w.ownsRow B 3 1 v n xs)
    (ad : Addr) (m c : Nat) (news : List Int) (hx : a.eval x = .slice (some ad) m c) (hl : news.length = m) (hnews : ∀ j u, (ints news)[j]? = some u → w.cell? (ad.add j) = some u)
    (h63 : n + m ≤ 1048576) (hbase : B ≤ w.heap.size)
    (h : ∀ v' w', w'.ownsRow B 3 1 v' (n + m) (xs ++ ints news) → w.grownBy w' v.ownBlock → (v'.ownBlock = v.ownBlock ∨ v'.ownBlock = some w.heap.size) → K (a.put o.dst v') w') :
    if Region.wanted o (yielded ops a.tmps) = true then Oper.wp Tryd.prog o a w K Q else E := by
  have hw : Region.wanted o (yielded ops a.tmps) = true := by simp [Region.wanted, hgd]
  rw [if_pos hw]
  obtain ⟨i0, hi, hz0, hz1, hz2⟩ := info_parts int_info
  obtain ⟨v', w', hr, h2, h3, _, h5⟩ := run_append_own_at (P := Tryd.prog) w B 23 o.type 3 i0 (.int .i64 0) 1 8 Tryd.underlying23 hi hz0 hz1 hz2 rfl (by decide) v n xs hown ad m c (ints news) (by simp [hl]) hnews (ints_oneCell news) (by unfold maxLen; omega) (by omega) hbase
  unfold Oper.wp execOp
  simp only [ho, resolve, invoke, builtin, Sem.run_bind, Sem.run_pure, Result.andThen_ok, List.map_toArray, List.map_cons, List.map_nil, hs, hx, hr]
  exact h v' w' h2 h3 h5

theorem elem_ints : Tryd.prog.elem 23 = 3 := by kernel_rfl

/-- The head of a slice up to a length. -/
theorem slice_head (W : World) (g n c m : Nat) (hm : m ≤ c) :
    (Instr.slice 23 (.slice (some ⟨g, 0, none⟩) n c) none (some (.int .i64 (m : Int))) none).run Tryd.prog W = .ok (.slice (some ⟨g, 0, none⟩) m c) W := by
  obtain ⟨i, hi, _, hs, _⟩ := info_parts int_info
  have h := run_slice_h (P := Tryd.prog) W 23 (some ⟨g, 0, none⟩) n c (by rw [elem_ints]; exact Tryd.underlying23) .i64 (m : Int) (by omega) (by omega)
  rw [h, elem_ints, run_sizeOf W hi, Result.andThen_ok]
  simp [sliced, Addr.add]

/-- The tail of a slice from a place on. -/
theorem slice_tail (W : World) (g n c m : Nat) (hm : m ≤ n) (_ : n ≤ c) :
    (Instr.slice 23 (.slice (some ⟨g, 0, none⟩) n c) (some (.int .i64 (m : Int))) none none).run Tryd.prog W = .ok (.slice (some (if c = m then ⟨g, 0, none⟩ else ⟨g, m, none⟩)) (n - m) (c - m)) W := by
  obtain ⟨i, hi, _, hs, _⟩ := info_parts int_info
  have h := run_slice_l (P := Tryd.prog) W 23 (some ⟨g, 0, none⟩) n c (by rw [elem_ints]; exact Tryd.underlying23) .i64 (m : Int) (by omega) (by omega)
  rw [h, elem_ints, run_sizeOf W hi, Result.andThen_ok, cells_int]
  by_cases e : c = m
  · simp [sliced, e]
  · simp [sliced, e, Addr.add_lit]

set_option maxRecDepth 4000 in
set_option maxHeartbeats 2000000 in
theorem byS_any (n : Nat) (k0 : Int) (w : World) (h3 : 3 ≤ n) (h7 : n ≤ 7) (h0 : 0 ≤ k0) (hk : k0 < facN (n - 1)) :
    Calls Tryd.prog 47 #[.int .i64 (n : Int), .int .i64 k0] w fun e w' => ∃ v, e = .returned v ∧ Own w' w.heap.size v (byL n k0) ∧ Below w.heap.size w w' := by
  obtain ⟨i0, hi, hz0, hz1, hz2⟩ := info_parts int_info
  have HC0 := Lib.hid (byL_eq n k0 (by omega) h7 h0 hk)
  have HCL := Lib.hid (byL_length n k0)
  have HK0 := Lib.hid hk
  clear hk
  generalize byL n k0 = C at *
  have ho0 := Lib.hid (own_empty w _ (Nat.le_refl _))
  have hb0 := (Below.refl w.heap.size w).alloc (Nat.le_refl _) (.cells #[] 3)
  go_enter Tryd.func47, Tryd.ntmps47
  go_wp2
  obtain ⟨W0, hW0⟩ : ∃ W, W = w.alloc (.cells #[] 3) := ⟨_, rfl⟩
  rw [← hW0] at ho0 hb0 ⊢
  clear hW0
  go_loopw [5, 6] (fun v i wr => ∃ k : Nat, k + 1 ≤ n ∧ i = .int .i64 ((k : Int) + 1) ∧ Hid (wr.ownsRow w.heap.size 3 1 v k (ints (upFrom 1 k))) ∧ Below w.heap.size w wr) (fun _ i _ => n - (intOf i).toNat)
  case atStart => exact ⟨0, by omega, by go_num, by simpa [Own, Hid, ints, upFrom] using ho0.out, hb0⟩
  case round =>
    obtain ⟨k, hk, rfl, hown, hbl⟩ := hrel
    clear ho0 hb0
    by_cases hlt : k + 1 < n
    · have hsn : Hid (ints (upFrom 1 k) ++ [.int .i64 ((k : Int) + 1)] = ints (upFrom 1 (k + 1))) := by
        rw [Hid, upFrom_snoc, ints, ints, List.map_append]
        simp [Int.add_comm]
      go_wp2_with (at_builtin; refine wpList_append_own _ rfl _ _ 23 rfl w.heap.size 3 i0 (.int .i64 0) 1 8 Tryd.underlying23 hi hz0 hz1 hz2 rfl (by decide) _ _ _ rfl (hown.out.alloc _) ⟨wr.heap.size, 0, none⟩ 1 1 [.int .i64 ((k : Int) + 1)] rfl rfl (one_cell wr _ _) (by simp [Value.oneCell']) (by unfold maxLen; omega) (by omega) (by have := hbl.size; simp; omega) ?_)
      intro v' w1 hown' hgrow _
      rw [hsn.out] at hown'
      have HO := Lib.hid hown'
      have hb1 := own_below hown.out hbl hbl.size hgrow
      clear hown' hgrow
      go_wp2
      go_roundw
      case rel => exact ⟨k + 1, by omega, by go_num, HO, hb1⟩
      case measure => simp [intOf]; omega
    · obtain ⟨k', rfl⟩ : ∃ k', k' = k := ⟨k, rfl⟩
      have hkn : k' + 1 = n := by omega
      have HKN := Lib.hid hkn
      have hln := hown.out.lt
      have HLB : Hid (∀ q, u5.ownBlock = some q → q < wr.heap.size) := fun q hq => (hln q hq).2
      have hs1 := hbl.size
      have hnl : (n : Int) ≤ (k' : Int) + 1 := by omega
      have hO : (wr.alloc (.cells #[.int .i64 0] 3)).ownsRow w.heap.size 3 1 (.slice (some ⟨wr.heap.size, 0, none⟩) 1 1) 1 (ints [0]) := World.ownsRow_lit wr #[.int .i64 0] 1 hs1 (by unfold maxLen; omega) rfl
      have hL : (wr.alloc (.cells #[.int .i64 0] 3)).ownsRow w.heap.size 3 1 u5 k' (ints (upFrom 1 k')) := hown.out.alloc _
      have hb2 := Lib.hid (hbl.alloc hs1 (.cells #[.int .i64 0] 3))
      have HO := Lib.hid hO
      have HL := Lib.hid hL
      have HNE : Hid (∀ q, u5.ownBlock = some q → (Value.slice (some ⟨wr.heap.size, 0, none⟩) 1 1).ownBlock ≠ some q) := fun q hq he => by
        have := HLB.out q hq
        simp [Value.ownBlock] at he
        omega
      clear hln hkn hO hL hown hbl HLB
      go_wp2
      obtain ⟨wo, rfl⟩ : ∃ wo : World, wo = wr := ⟨_, rfl⟩
      go_loopw [1, 5, 7, 8] (fun kk vl vo i wr => ∃ (m : Nat) (L O : List Int) (q : Int), m + 1 ≤ n ∧ i = .int .i64 ((m : Int) - 1) ∧ kk = .int .i64 q ∧ 0 ≤ q ∧
          Hid (q < facN m ∧ L.length = m ∧ O.length = n - m ∧ O ++ takeBy m L q = C) ∧ Hid (wr.ownsRow w.heap.size 3 1 vl m (ints L)) ∧ Hid (wr.ownsRow w.heap.size 3 1 vo (n - m) (ints O)) ∧
          Hid (∀ q, vl.ownBlock = some q → vo.ownBlock ≠ some q) ∧ Hid (Below w.heap.size w wr)) (fun _ _ _ i _ => (intOf i + 1).toNat)
      case atStart =>
        refine ⟨k', upFrom 1 k', [0], k0, by have := HKN.out; omega, by have := HKN.out; go_num, rfl, h0, ?_, HL, ?_, HNE, hb2⟩
        · have e := HKN.out
          have e1 : n - 1 = k' := by omega
          have e2 : n - k' = 1 := by omega
          refine ⟨by rw [← e1]; exact HK0.out, by simp, by rw [e2]; rfl, ?_⟩
          rw [HC0.out, e1]; rfl
        · have e2 : n - k' = 1 := by have := HKN.out; omega
          rw [e2]; exact HO
      case round =>
        obtain ⟨m, L, O, q, hm, rfl, rfl, hq0, hall, hL, hO, hne, hbl⟩ := hrel
        clear HL HO HNE hb2 HK0 HC0
        by_cases hm0 : m = 0
        · subst hm0
          have hfin : Hid (O = C) := by
            have := hall.out.2.2.2
            rw [takeBy, List.append_nil] at this
            exact this
          have hOl := hall.out.2.2.1
          have HOl := Lib.hid hOl
          clear hOl
          go_wp2
          go_ret
          refine ⟨_, rfl, ?_, hbl.out⟩
          have := hO.out
          rw [hfin.out] at this
          have e : n - 0 = C.length := by rw [← hfin.out, HOl.out]
          rw [e] at this
          exact this
        · obtain ⟨m', rfl⟩ : ∃ m', m = m' + 1 := ⟨m - 1, by omega⟩
          obtain ⟨hqf, hLl, hOl, hct⟩ := hall.out
          have hmb := place_bd m' q (by omega) hq0 hqf
          rw [takeBy] at hct
          have hfb := facN_bd m'
          obtain ⟨f, hf⟩ : ∃ f, f = facN m' := ⟨_, rfl⟩
          rw [← hf] at hmb hct hfb
          obtain ⟨pl, hpl⟩ : ∃ pl : Nat, q / f = (pl : Int) := ⟨(q / f).toNat, by omega⟩
          obtain ⟨r, hr⟩ : ∃ r, r = q % f := ⟨_, rfl⟩
          rw [hpl, ← hr, Int.toNat_natCast] at hct
          obtain ⟨hp0, hp1, hr0, hr1⟩ := hmb
          rw [← hr] at hr0 hr1
          rw [hpl] at hp1
          have hplm : pl ≤ m' := by omega
          obtain ⟨hf1, hf2⟩ := hfb
          have hm6 : m' ≤ 6 := by omega
          have hquo : wrap64 (q.tdiv f) = (pl : Int) := by
            rw [Int.tdiv_eq_ediv_of_nonneg hq0, hpl]
            exact IntWalk.wrap64_in _ ⟨by omega, by omega⟩
          have hrr := hr.symm
          have HRE := Lib.hid hrr
          have HF := Lib.hid hf
          have HRF : Hid (r < facN m') := by rw [Hid, ← HF.out]; exact hr1
          have HLL := Lib.hid hLl
          have HOL := Lib.hid hOl
          have HCT : Hid ((O ++ [L.getD pl 0]) ++ takeBy m' (L.eraseIdx pl) r = C) := by
            rw [Hid, List.append_assoc]; exact hct
          have HEL : Hid ((L.eraseIdx pl).length = m') := by rw [Hid, List.length_eraseIdx, if_pos (by omega)]; omega
          rcases hL.out.2 with ⟨_, h00⟩ | ⟨gl, cl, cur, rfl, hgB, hh, hnc, hcm, hcs, htk⟩
          · omega
          · have hcx : wr.cell? ⟨gl, pl, none⟩ = some (.int .i64 (L.getD pl 0)) := by
              rw [hL.out.cellAt pl (by omega), ints_get _ _ (by omega)]
            have hgl : gl < wr.heap.size := (hL.out.lt gl rfl).2
            have hsz := hbl.out.size
            have hsnO : Hid (ints O ++ [.int .i64 (L.getD pl 0)] = ints (O ++ [L.getD pl 0])) := by rw [Hid, ints, ints, List.map_append]; rfl
            have hneq := Lib.hid (fun e => hne.out gl rfl (Eq.symm e))
            unfold maxLen at hcm
            clear hall hqf hLl hOl hct hf hr hr1 hgB hh hcs htk
            obtain ⟨x, hx⟩ : ∃ x, x = L.getD pl 0 := ⟨_, rfl⟩
            rw [← hx] at hcx hsnO HCT
            clear hx
            go_wp2_with fail
            refine (facS_nat m' _ _ (by omega) (by omega)).mono ?_
            rintro e w' ⟨rfl, rfl⟩
            rw [← HF.out]
            go_wp2_with (at_builtin; refine wpList_append_own_at _ rfl _ _ 23 rfl w.heap.size 3 i0 (.int .i64 0) 1 8 Tryd.underlying23 hi hz0 hz1 hz2 rfl (by decide) _ _ _ rfl (hO.out.alloc _) ⟨wr.heap.size, 0, none⟩ 1 1 [.int .i64 x] rfl rfl (one_cell wr _ _) (by simp [Value.oneCell']) (by unfold maxLen; omega) (by omega) (by simp; omega) ?_)
            intro vo1 w1 ho1 hg1 _ hat1
            rw [hsnO.out] at ho1
            have hs1 := hg1.size
            have hL1 := (hL.out.alloc (.cells #[.int .i64 x] 3)).kept hg1 (.inr hneq.out)
            have hb1 := hbl.out.alloc (by omega) (.cells #[.int .i64 x] 3)
            have hb2 := Lib.hid (hb1.grown hg1 (by simp; omega) (fun z hz => (hO.out.lt z hz).1))
            have hn1 : Hid (∀ z, vo1.ownBlock = some z → z ≠ gl ∧ z < w1.heap.size) := fun z hz => by
              refine ⟨?_, (ho1.lt z hz).2⟩
              rcases hat1 with e | e
              · rw [e] at hz
                intro hzz
                subst hzz
                exact hneq.out hz.symm
              · rw [e] at hz
                injection hz with hz
                have hz2 : wr.heap.size + 1 = z := by simpa using hz
                omega
            have hglw : gl < w1.heap.size := by simp at hs1; omega
            have hBw1 : w.heap.size ≤ w1.heap.size := by simp at hs1; omega
            have HO1 := Lib.hid ho1
            have HLC : Hid (∀ W : World, (∀ z, z < w1.heap.size → W.heap[z]? = w1.heap[z]?) → ∀ (o m2 : Nat) (news : List Int), (∀ j, j < news.length → news.getD j 0 = L.getD (o + j) 0) → news.length = m2 → o + m2 ≤ m' + 1 →
                ∀ j u, (ints news)[j]? = some u → W.cell? ((⟨gl, o, none⟩ : Addr).add j) = some u) := fun W hW o m2 news hnew hnl hom j u hu => by
              have hj : j < news.length := by
                have := (List.getElem?_eq_some_iff.1 hu).1
                simpa using this
              rw [Addr.add_lit, World.cell?_of_block (w := w1) (hW gl hglw), hL1.cellAt (o + j) (by omega), ints_get _ _ (by rw [HLL.out]; omega), ← hnew j hj, ← hu, ints_get _ _ hj]
            have HE0 := Lib.hid (show (w1.alloc (.cells #[] 3)).drew.ownsRow w.heap.size 3 1 (.slice (some ⟨w1.heap.size, 0, none⟩) 0 0) 0 [] from own_empty w1 _ hBw1)
            have htake : Hid (∀ j, j < (L.take pl).length → (L.take pl).getD j 0 = L.getD (0 + j) 0) := fun j hj => by
              have hj2 : j < pl := by
                have := List.length_take_le pl L
                omega
              simp [List.getD, hj2]
            have hdrop : Hid (∀ j, j < (L.drop (pl + 1)).length → (L.drop (pl + 1)).getD j 0 = L.getD (pl + 1 + j) 0) := fun j _ => by
              simp [List.getD]
            have htl : Hid ((L.take pl).length = pl) := by rw [Hid, List.length_take, HLL.out]; omega
            have hdl : Hid ((L.drop (pl + 1)).length = m' + 1 - (pl + 1)) := by rw [Hid, List.length_drop, HLL.out]
            have hfin : Hid ([] ++ ints (L.take pl) ++ ints (L.drop (pl + 1)) = ints (L.eraseIdx pl)) := by
              rw [Hid, List.eraseIdx_eq_take_drop_succ]; simp [ints]
            have hw1 : IntKind.i64.wrap ((pl : Int) + 1) = (pl : Int) + 1 := IntWalk.i64_in _ (by omega)
            clear hL1 hb1 hg1 ho1 hat1 hL hO hne hbl hcx
            have hsA := fun W => slice_head W gl (m' + 1) cl pl (by omega)
            obtain ⟨ad, hade⟩ : ∃ ad : Addr, ad = if cl = pl + 1 then ⟨gl, 0, none⟩ else ⟨gl, pl + 1, none⟩ := ⟨_, rfl⟩
            have had : pl + 1 < cl → ad = ⟨gl, pl + 1, none⟩ := fun hlt => by rw [hade, if_neg (by omega)]
            have hsB : ∀ W : World, (Instr.slice 23 (.slice (some ⟨gl, 0, none⟩) (m' + 1) cl) (some (.int .i64 ((pl : Int) + 1))) none none).run Tryd.prog W = .ok (.slice (some ad) (m' + 1 - (pl + 1)) (cl - (pl + 1))) W := fun W => by
              have hr := slice_tail W gl (m' + 1) cl (pl + 1) (by omega) (by omega)
              rw [show (((pl + 1 : Nat)) : Int) = (pl : Int) + 1 by omega, ← hade] at hr
              exact hr
            clear hade
            have HLD : Hid (∀ W : World, (∀ z, z < w1.heap.size → W.heap[z]? = w1.heap[z]?) → ∀ j u, (ints (L.drop (pl + 1)))[j]? = some u → W.cell? (ad.add j) = some u) := fun W hW j u hu => by
              have hj : j < (L.drop (pl + 1)).length := by
                have := (List.getElem?_eq_some_iff.1 hu).1
                simpa using this
              have hj2 := hdl.out
              rw [had (by omega)]
              exact HLC.out W hW (pl + 1) _ _ hdrop.out hdl.out (by omega) j u hu
            clear had
            go_wp2
            go_region_law (first
              | (refine step_append_at _ rfl (.tmp 43) (.tmp 46) rfl w.heap.size _ 0 [] (by simp [Act.eval]) HE0.out ⟨gl, 0, none⟩ pl cl (L.take pl) (by simp [Act.eval]) htl.out (HLC.out _ (fun z hz => Below.heap_alloc _ _ _ hz) 0 pl _ htake.out htl.out (by omega)) (by omega) (by simp; omega) ?_; intro v1 w2 hv1 hgv1 hatv1; have HV1 := Lib.hid hv1; have hs2 := hgv1.size; have HW2 := Lib.hid (fun z (hz : z < w1.heap.size) => (hgv1.block z (by simp; omega) (by simp [Value.ownBlock]; omega)).trans (Below.heap_alloc w1 _ z hz)); clear hv1)
              | (refine step_append_at _ rfl (.tmp 47) (.tmp 51) rfl w.heap.size v1 (0 + pl) ([] ++ ints (L.take pl)) (by simp [Act.eval]) HV1.out ad (m' + 1 - (pl + 1)) (cl - (pl + 1)) (L.drop (pl + 1)) (by simp [Act.eval]) hdl.out (HLD.out _ HW2.out) (by omega) (by simp at hs2; omega) ?_; intro v2 w3 hv2 hgv2 hatv2))
            have hr1b : ∀ z, v1.ownBlock = some z → w1.heap.size ≤ z := fun z hz => by
              rcases hatv1 with e | e
              · rw [e] at hz
                simp [Value.ownBlock] at hz
                omega
              · rw [e] at hz
                injection hz with hz
                have : w1.heap.size + 1 = z := by simpa using hz
                omega
            have hs2b : w1.heap.size ≤ w2.heap.size := by simp at hs2; omega
            have hr2b : ∀ z, v2.ownBlock = some z → w1.heap.size ≤ z := fun z hz => by
              rcases hatv2 with e | e
              · rw [e] at hz
                exact hr1b z hz
              · rw [e] at hz
                injection hz with hz
                omega
            have HO3 : Hid (w3.ownsRow w.heap.size 3 1 vo1 (n - m') (ints (O ++ [x]))) := by
              have e1 : n - (m' + 1) + 1 = n - m' := by omega
              have h1 := ((HO1.out.alloc (.cells #[] 3)).drew).kept hgv1 (by
                rcases hv : vo1.ownBlock with _ | z
                · exact .inl rfl
                · right
                  intro e
                  simp [Value.ownBlock] at e
                  have := (hn1.out z hv).2
                  omega)
              have h2 := h1.kept hgv2 (by
                rcases hv : vo1.ownBlock with _ | z
                · exact .inl rfl
                · right
                  intro e
                  have := (hn1.out z hv).2
                  have := hr1b z e.symm
                  omega)
              rw [e1] at h2
              exact h2
            have HL3 : Hid (w3.ownsRow w.heap.size 3 1 v2 m' (ints (L.eraseIdx pl))) := by
              have e1 : 0 + pl + (m' + 1 - (pl + 1)) = m' := by omega
              rw [e1, hfin.out] at hv2
              exact hv2
            have HN3 : Hid (∀ z, v2.ownBlock = some z → vo1.ownBlock ≠ some z) := fun z hz e => by
              have := hr2b z hz
              have := (hn1.out z e).2
              omega
            have HB3 : Hid (Below w.heap.size w w3) :=
              (((hb2.out.alloc hBw1 (.cells #[] 3)).drew).grown hgv1 (by simp; omega) (by simp [Value.ownBlock]; omega)).grown hgv2 (by omega) (fun z hz => by have := hr1b z hz; omega)
            have HALL : Hid (r < facN m' ∧ (L.eraseIdx pl).length = m' ∧ (O ++ [x]).length = n - m' ∧ (O ++ [x]) ++ takeBy m' (L.eraseIdx pl) r = C) :=
              ⟨HRF.out, HEL.out, by rw [List.length_append, HOL.out]; simp; omega, HCT.out⟩
            clear hr1b hr2b hv2 hgv1 hgv2 hatv1 hatv2 hsA hsB hquo hrr hw1
            go_wp2
            go_roundw
            case rel => exact ⟨m', L.eraseIdx pl, O ++ [x], r, by omega, by go_num, by first | rfl | rw [HRE.out], hr0, HALL, HL3, HO3, HN3, HB3⟩
            case measure => simp [intOf]
end Go.Proofs.YtmfilnpbkonfaabDoor

namespace Go.Proofs.YtmfilnpbkonfaabDoor
open Go.ChangeShapes Go.WideShapes Go.ChangeAt Go.RowKit

def allB (q : List Int → Bool) (L : List (List Int)) : Bool := L.all q
def allL (q : List Int → Bool) (L : List (List Int)) : List (List Int) := if allB q L then L else []
theorem allB_iff {q : List Int → Bool} {L : List (List Int)} : allB q L = true ↔ ∀ l ∈ L, q l = true := by simp [allB]
theorem all_yes {q : List Int → Bool} {L : List (List Int)} (h : ∀ l ∈ L, q l = true) : allB q L = true ∧ allL q L = L := by
  have := allB_iff.2 h
  exact ⟨this, by rw [allL, if_pos this]⟩
theorem all_no {q : List Int → Bool} {L : List (List Int)} {k : Nat} (hk : k < L.length) (h : q (rowK L k) = false) : allB q L = false ∧ allL q L = [] := by
  have : allB q L = false := by
    rw [Bool.eq_false_iff]
    intro hh
    have := allB_iff.1 hh _ (rowK_mem hk)
    rw [h] at this
    cases this
  exact ⟨this, by rw [allL, if_neg (by simp [this])]⟩
def AllTo (q : List Int → Bool) (L : List (List Int)) (k : Nat) : Prop := ∀ j, j < k → q (rowK L j) = true
theorem allTo_step {q : List Int → Bool} {L : List (List Int)} {k : Nat} (h : AllTo q L k) (hk : q (rowK L k) = true) : AllTo q L (k + 1) := fun j hj => by
  rcases Nat.lt_succ_iff_lt_or_eq.1 hj with hj | rfl
  · exact h j hj
  · exact hk
theorem allTo_all {q : List Int → Bool} {L : List (List Int)} (h : AllTo q L L.length) : ∀ l ∈ L, q l = true := fun l hl => by
  obtain ⟨j, hj, rfl⟩ := List.getElem_of_mem hl
  have := h j hj
  simpa [rowK, List.getD, hj] using this

/-- The first k rows, z behind. -/
def mixZ (z : List Int) (L : List (List Int)) (m k : Nat) : List (List Int) := L.take k ++ List.replicate (m - k) z
theorem mixZ_length (z : List Int) (L : List (List Int)) (m k : Nat) (hL : L.length = m) (hk : k ≤ m) : (mixZ z L m k).length = m := by simp [mixZ]; omega
theorem mixZ_step (z : List Int) (L : List (List Int)) (m k : Nat) (hL : L.length = m) (hk : k < m) : (mixZ z L m k).set k (rowK L k) = mixZ z L m (k + 1) := by
  unfold mixZ
  have hl : (L.take k).length = k := by simp; omega
  rw [List.set_append_right _ _ (by omega), hl, Nat.sub_self]
  obtain ⟨d, hd⟩ : ∃ d, m - k = d + 1 := ⟨m - k - 1, by omega⟩
  rw [hd, show m - (k + 1) = d by omega, List.replicate_succ, List.set_cons_zero, List.take_succ_eq_append_getElem (by omega), List.append_assoc]
  simp [rowK, List.getD, show k < L.length by omega]
theorem mixZ_full (z : List Int) (L : List (List Int)) (m : Nat) (hL : L.length = m) : mixZ z L m m = L := by simp [mixZ, ← hL]
theorem made_cells (z : Array Value) (c : Value) (hz : 0 < z.size) (h : ∀ i, i < z.size → z[i]! = c) (n : Nat) : (madeCells z n).toList = List.replicate n c := by
  apply List.ext_getElem?
  intro j
  by_cases hj : j < n
  · simp only [madeCells, Array.toList_map, Array.toList_range, List.getElem?_map, List.getElem?_range hj, List.getElem?_replicate, if_pos hj, Option.map_some]
    rw [h _ (Nat.mod_lt _ hz)]
  · simp [madeCells, hj]
end Go.Proofs.YtmfilnpbkonfaabDoor

namespace Go.Proofs.YtmfilnpbkonfaabDoor
open Go.ChangeShapes Go.WideShapes Go.ChangeAt Go.RowKit

theorem mem_erase (left : List Int) (p : Nat) (x : Int) (hx : x ∈ left) : x = left.getD p 0 ∨ x ∈ left.eraseIdx p := by
  rcases Nat.lt_or_ge p left.length with hp | hp
  · rw [List.eraseIdx_eq_take_drop_succ, List.mem_append]
    rw [← List.take_append_drop p left, List.mem_append] at hx
    rcases hx with hx | hx
    · exact .inr (.inl hx)
    · rw [List.drop_eq_getElem_cons hp, List.mem_cons] at hx
      rcases hx with hx | hx
      · left; rw [hx]; simp [List.getD, hp]
      · exact .inr (.inr hx)
  · rw [List.eraseIdx_of_length_le hp]; exact .inr hx
theorem takeBy_all : ∀ (m : Nat) (left : List Int) (k : Int), m ≤ 7 → left.length = m → 0 ≤ k → k < facN m → ∀ x ∈ left, x ∈ takeBy m left k
  | 0, left, _, _, hl, _, _, x, hx => by rw [List.eq_nil_of_length_eq_zero hl] at hx; simp at hx
  | m + 1, left, k, hm, hl, h0, hk, x, hx => by
    obtain ⟨h1, h2, h3, h4⟩ := place_bd m k (by omega) h0 hk
    rw [takeBy, List.mem_cons]
    rcases mem_erase left (k / facN m).toNat x hx with h | h
    · exact .inl h
    · right
      exact takeBy_all m _ _ (by omega) (by rw [List.length_eraseIdx_of_lt (by omega)]; omega) h3 h4 x h
theorem byL_has (n : Nat) (k : Int) (h7 : n ≤ 7) (h0 : 0 ≤ k) (hk : k < facN n) (x : Int) (hx0 : 0 ≤ x) (hxn : x < n) : x ∈ byL n k := by
  refine takeBy_all n _ k h7 (by simp) h0 hk x ?_
  simp only [upFrom, List.mem_map, List.mem_range]
  exact ⟨x.toNat, by omega, by omega⟩
theorem facN_le (m : Nat) (h : m ≤ 6) : facN m ≤ facN (m + 1) ∧ 1 ≤ facN m ∧ facN m ≤ 720 := by
  obtain rfl | rfl | rfl | rfl | rfl | rfl | rfl : m = 0 ∨ m = 1 ∨ m = 2 ∨ m = 3 ∨ m = 4 ∨ m = 5 ∨ m = 6 := by omega
  all_goals decide
def facM (n : Nat) : Nat := (facN (n - 1)).toNat
def ringsL (n : Nat) : List (List Int) := (List.range (facM n)).map fun k : Nat => byL n (k : Int)
theorem ringsL_length (n : Nat) : (ringsL n).length = facM n := by simp [ringsL]
theorem facM_eq7 (n : Nat) (h3 : 3 ≤ n) (h6 : n ≤ 7) : (facM n : Int) = facN (n - 1) ∧ facM n ≤ 720 ∧ 1 ≤ facM n ∧ facN (n - 1) ≤ facN n := by
  obtain ⟨h1, h2, h3'⟩ := facN_le (n - 1) (by omega)
  rw [show n - 1 + 1 = n by omega] at h1
  unfold facM
  exact ⟨by omega, by omega, by omega, h1⟩
theorem facM_eq (n : Nat) (h3 : 3 ≤ n) (h6 : n ≤ 6) : (facM n : Int) = facN (n - 1) ∧ facM n ≤ 720 ∧ 1 ≤ facM n ∧ facN (n - 1) ≤ facN n := facM_eq7 n h3 (by omega)
/-- What is known of each ring of n points. -/
def IsR (n : Nat) (l : List Int) : Prop := l.length = n ∧ (∀ x ∈ l, 0 ≤ x) ∧ ∀ x : Int, 0 ≤ x → x < n → x ∈ l
theorem byL_is7 (n k : Nat) (h3 : 3 ≤ n) (h6 : n ≤ 7) (hk : k < facM n) : IsR n (byL n k) := by
  obtain ⟨h1, _, _, h4⟩ := facM_eq7 n h3 h6
  exact ⟨byL_length n k, byL_pos n k (by omega) (by omega) (by omega), fun x hx0 hxn => byL_has n k (by omega) (by omega) (by omega) x hx0 hxn⟩
theorem byL_is (n k : Nat) (h3 : 3 ≤ n) (h6 : n ≤ 6) (hk : k < facM n) : IsR n (byL n k) := byL_is7 n k h3 (by omega) hk
theorem ringsL_is (n : Nat) (h3 : 3 ≤ n) (h6 : n ≤ 6) : ∀ l ∈ ringsL n, IsR n l := fun l hl => by
  simp only [ringsL, List.mem_map, List.mem_range] at hl
  obtain ⟨k, hk, rfl⟩ := hl
  exact byL_is n k h3 h6 hk
theorem enters_fn {f : FuncId} {fn : Func} (hf : Tryd.prog.funcs[f]? = some fn) (hn : (fn.name == "runtime.NumGoroutine") = false) (hb : fn.body.isNone = false) (args : Array Value) (w : World) : (callFunc f args).run Tryd.prog w = .ok (.enter f args) w := by
  have h1 : ¬ fn.name = "runtime.NumGoroutine" := by simpa using hn
  have h2 : ¬ fn.body = none := by
    intro e
    rw [e] at hb
    cases hb
  simp [callFunc, go_sem, hf, h1, h2]

def padM (M : List (List Int)) : List (List Int) := M.map padR
def unpad (P : List Int) : List Int := P.filter fun x => decide (0 ≤ x)
theorem unpad_pad (l : List Int) (h : ∀ x ∈ l, 0 ≤ x) : unpad (padR l) = l := by
  unfold unpad padR
  rw [List.filter_append, List.filter_eq_self.2 (fun x hx => by simpa using h x hx)]
  have e : (List.replicate (7 - l.length) (-1 : Int)).filter (fun x => decide (0 ≤ x)) = [] := by
    rw [List.filter_eq_nil_iff]
    intro x hx
    rw [(List.mem_replicate.1 hx).2]; decide
  rw [e, List.append_nil]
theorem filter_pad (M : List (List Int)) (q : List Int → Bool) (h : ∀ l ∈ M, ∀ x ∈ l, 0 ≤ x) : (padM M).filter (fun P => q (unpad P)) = padM (M.filter q) := by
  induction M with
  | nil => rfl
  | cons l M ih =>
    have e := unpad_pad l (h l (by simp))
    have ih' := ih (fun r hr => h r (by simp [hr]))
    simp only [padM, List.map_cons, List.filter_cons, e] at ih' ⊢
    rw [ih']
    cases q l <;> simp
theorem made_ring (n : Nat) : (madeCells #[Value.int .i64 0, Value.int .i64 0, Value.int .i64 0, Value.int .i64 0, Value.int .i64 0, Value.int .i64 0, Value.int .i64 0] (n * 7)).toList = ints (List.replicate n zero7).flatten := by
  rw [made_cells _ (.int .i64 0) (by decide) (fun i hi => by
    simp only [List.size_toArray, List.length_cons, List.length_nil] at hi
    obtain rfl | rfl | rfl | rfl | rfl | rfl | rfl : i = 0 ∨ i = 1 ∨ i = 2 ∨ i = 3 ∨ i = 4 ∨ i = 5 ∨ i = 6 := by omega
    all_goals rfl)]
  rw [show zero7 = List.replicate 7 0 from rfl, List.flatten_replicate_replicate, ints, List.map_replicate]

def mixR (M : List (List Int)) (m k : Nat) : List (List Int) := M.take k ++ List.replicate (m - k) zero7
theorem mixR_length (L : List (List Int)) (m k : Nat) (hL : L.length = m) (hk : k ≤ m) : (mixR L m k).length = m := by simp [mixR]; omega
theorem mixR_step (L : List (List Int)) (m k : Nat) (hL : L.length = m) (hk : k < m) : (mixR L m k).set k (rowK L k) = mixR L m (k + 1) := by
  unfold mixR
  have hl : (L.take k).length = k := by simp; omega
  rw [List.set_append_right _ _ (by omega), hl, Nat.sub_self]
  obtain ⟨d, hd⟩ : ∃ d, m - k = d + 1 := ⟨m - k - 1, by omega⟩
  rw [hd, show m - (k + 1) = d by omega, List.replicate_succ, List.set_cons_zero, List.take_succ_eq_append_getElem (by omega), List.append_assoc]
  simp [rowK, List.getD, show k < L.length by omega]
theorem mixR_full (L : List (List Int)) (m : Nat) (hL : L.length = m) : mixR L m m = L := by simp [mixR, ← hL]

set_option maxRecDepth 10000 in
set_option maxHeartbeats 1000000 in
theorem allRings7_any (n : Nat) (w : World) (h3 : 3 ≤ n) (h6 : n ≤ 7) :
    Calls Tryd.prog 44 #[.int .i64 (n : Int)] w fun e w' => ∃ v, e = .returned v ∧ RowN w' w.heap.size 48 7 v (padM (ringsL n)) ∧ Below w.heap.size w w' := by
  obtain ⟨i0, hi, hz0, hz1, hz2⟩ := info_parts ring_info
  obtain ⟨hf1, hf2, hf3, hf4⟩ := facM_eq7 n h3 h6
  have HFM := Lib.hid hf1
  obtain ⟨N, hN⟩ : ∃ N, N = facM n := ⟨_, rfl⟩
  rw [← hN] at HFM hf2
  have HN := Lib.hid hN
  have hPL : (padM (ringsL n)).length = N := by simp [padM, ringsL_length, hN]
  have HPL := Lib.hid hPL
  have HFACT := Lib.hid (fun W => facI_nat (n - 1) ((n : Int) - 1) W (by omega) (by omega))
  rw [← HFM.out] at HFACT
  have HNB := Lib.hid (fun (k : Nat) (hk : k < N) W => numbered_any n (k : Int) W h3 (by omega) (by omega) (by have := HFM.out; omega))
  have HROW : Hid (∀ k, k < N → rowK (padM (ringsL n)) k = padR (byL n (k : Int))) := fun k hk => by
    simp [padM, ringsL, rowK, List.getD, show k < facM n by omega]
  have H7 := Lib.hid (fun (k : Nat) => padR_length (byL n (k : Int)) (by rw [byL_length]; omega))
  clear hf1 hf3 hf4 hN hPL
  go_enter Tryd.func44, Tryd.ntmps44
  go_wp2_with (first
    | (go_at_call 70; refine (HFACT.out _).mono ?_; rintro e w' ⟨rfl, rfl⟩)
    | (at_make; refine wpList_make_full _ rfl _ _ 60 rfl w.heap.size 48 i0 (.agg #[.int .i64 0, .int .i64 0, .int .i64 0, .int .i64 0, .int .i64 0, .int .i64 0, .int .i64 0]) 7 Tryd.underlying60 hi hz0 hz1 .i64 .i64 _ _ N rfl rfl rfl rfl (by rw [hz2]; omega) (by unfold maxLen; omega) (Nat.le_refl _) ?_))
  intro w1 hown hgrow
  have hb1 : Below w.heap.size w w1 := (Below.refl _ _).grown hgrow (Nat.le_refl _) (by simp)
  obtain ⟨M, hM⟩ : ∃ M, M = padM (ringsL n) := ⟨_, rfl⟩
  rw [← hM] at HPL HROW
  have HM := Lib.hid hM
  clear hM
  have hf1 : Hid (RowN w1 w.heap.size 48 7 (.slice (some ⟨w.heap.size, 0, none⟩) N N) (mixR M N 0)) := by
    rw [made_ring] at hown
    refine ⟨?_, ?_⟩
    · intro l hl
      simp [mixR] at hl
      rw [hl.2]; rfl
    · rw [mixR_length M N 0 HPL.out (by omega)]
      simpa [mixR] using hown
  clear hown hgrow
  generalize hB : w.heap.size = B at *
  have HB := Lib.hid hB
  clear hB
  have hBs : B ≤ w1.heap.size := by rw [← HB.out]; exact hb1.size
  go_wp2
  go_loopw [11] (fun i wr => ∃ k : Nat, k ≤ N ∧ i = .int .i64 k ∧ Hid (RowN wr B 48 7 (.slice (some ⟨B, 0, none⟩) N N) (mixR M N k)) ∧ Below B w wr) (fun i _ => N - (intOf i).toNat)
  case atStart => exact ⟨0, Nat.zero_le _, rfl, hf1, hb1⟩
  case round =>
    obtain ⟨k, hk, rfl, hf, hbl⟩ := hrel
    clear hf1 hb1
    have HBL := Lib.hid hbl
    have hBw : B ≤ wr.heap.size := by rw [← HB.out]; exact hbl.size
    clear hbl
    by_cases hlt : k < N
    · have HC := Lib.hid (HNB.out k hlt)
      have HST := Lib.hid (mixR_step M N k HPL.out hlt)
      rw [HROW.out k hlt] at HST
      have HLN := Lib.hid (mixR_length M N k HPL.out hk)
      have H77 := Lib.hid (H7.out k)
      go_wp2_with (first
        | (go_at_call 50; refine (HC.out _).mono ?_; rintro e w2 ⟨rfl, hb2⟩; have HF2 := Lib.hid (hf.out.below hb2 (fun i hi => (hf.out.lt i hi).2)))
        | (refine store_elem rfl _ _ 48 rfl B N N B k 7 (mixR M N k) (padR (byL n (k : Int))) HF2 (by rw [HLN.out]; exact hlt) H77.out ring_size rfl rfl ?_; intro w8 HR8 hg8))
      rw [HST.out] at HR8
      go_wp2
      go_roundw
      case rel => exact ⟨k + 1, by omega, by go_num, HR8, (HBL.out.trans (hb2.mono hBw)).grown hg8 (by have := hb2.size; omega) (by simp)⟩
      case measure => simp [intOf]; omega
    · obtain rfl : k = N := by omega
      rw [mixR_full M k HPL.out] at hf
      go_wp2
      go_ret
      refine ⟨.slice (some ⟨B, 0, none⟩) k k, rfl, ?_, by rw [HB.out]; exact HBL.out⟩
      rw [HB.out, ← HM.out]; exact hf.out
theorem allRings_any (n : Nat) (w : World) (h3 : 3 ≤ n) (h6 : n ≤ 6) :
    Calls Tryd.prog 44 #[.int .i64 (n : Int)] w fun e w' => ∃ v, e = .returned v ∧ RowN w' w.heap.size 48 7 v (padM (ringsL n)) ∧ Below w.heap.size w w' := allRings7_any n w h3 (by omega)

theorem IsR.tell {n : Nat} {l : List Int} (h : IsR n l) (h3 : 3 ≤ n) (h7 : n ≤ 7) : Tell l := by
  have := nodup_of_all n l h.1 (fun j hj => h.2.2 j (by omega) (by omega))
  exact ⟨by rw [h.1]; exact h3, by rw [h.1]; exact h7, fun x hx => by rw [h.1]; exact this.2 x hx, this.1⟩
end Go.Proofs.YtmfilnpbkonfaabDoor
