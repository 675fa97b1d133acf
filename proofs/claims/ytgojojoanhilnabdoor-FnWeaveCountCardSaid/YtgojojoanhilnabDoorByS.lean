/- The model's ring by its number. -/
import Derived.Test.YtgojojoanhilnabDoorByM
import Derived.Deep.RegionLaw
import Derived.IntWalk
import Derived.Maps.AppendAt
namespace Go.Proofs.YtgojojoanhilnabDoor
open Go.ChangeShapes Go.WideShapes Go.ChangeAt Go.RowKit

/-- An append onto a row of the call's own, as one step of a region that draws its order. -/
theorem step_append_at {ops : Array Oper} {o : Oper} {a : Act} {K : Act → World → Prop} {Q : Exit → Act → World → Prop} {E : Prop} (w : World) (hgd : o.guard = none) (s x : Operand)
    (ho : o.op = .call { callee := .builtin .append, args := #[s, x], argTypes := #[26, 26] })
    (B : Nat) (v : Value) (n : Nat) (xs : List Value) (hs : a.eval s = v) (hown : w.ownsRow B 3 1 v n xs)
    (ad : Addr) (m c : Nat) (news : List Int) (hx : a.eval x = .slice (some ad) m c) (hl : news.length = m) (hnews : ∀ j u, (ints news)[j]? = some u → w.cell? (ad.add j) = some u)
    (h63 : n + m ≤ 1048576) (hbase : B ≤ w.heap.size)
    (h : ∀ v' w', w'.ownsRow B 3 1 v' (n + m) (xs ++ ints news) → w.grownBy w' v.ownBlock → (v'.ownBlock = v.ownBlock ∨ v'.ownBlock = some w.heap.size) → K (a.put o.dst v') w') :
    if Region.wanted o (yielded ops a.tmps) = true then Oper.wp Tryd.prog o a w K Q else E := by
  have hw : Region.wanted o (yielded ops a.tmps) = true := by simp [Region.wanted, hgd]
  rw [if_pos hw]
  obtain ⟨i0, hi, hz0, hz1, hz2⟩ := info_parts int_info
  obtain ⟨v', w', hr, h2, h3, _, h5⟩ := run_append_own_at (P := Tryd.prog) w B 26 o.type 3 i0 (.int .i64 0) 1 8 Tryd.underlying26 hi hz0 hz1 hz2 rfl (by decide) v n xs hown ad m c (ints news) (by simp [hl]) hnews (ints_oneCell news) (by unfold maxLen; omega) (by omega) hbase
  unfold Oper.wp execOp
  simp only [ho, resolve, invoke, builtin, Sem.run_bind, Sem.run_pure, Result.andThen_ok, List.map_toArray, List.map_cons, List.map_nil, hs, hx, hr]
  exact h v' w' h2 h3 h5

theorem elem_ints : Tryd.prog.elem 26 = 3 := by kernel_rfl

/-- The head of a slice up to a length. -/
theorem slice_head (W : World) (g n c m : Nat) (hm : m ≤ c) :
    (Instr.slice 26 (.slice (some ⟨g, 0, none⟩) n c) none (some (.int .i64 (m : Int))) none).run Tryd.prog W = .ok (.slice (some ⟨g, 0, none⟩) m c) W := by
  obtain ⟨i, hi, _, hs, _⟩ := info_parts int_info
  have h := run_slice_h (P := Tryd.prog) W 26 (some ⟨g, 0, none⟩) n c (by rw [elem_ints]; exact Tryd.underlying26) .i64 (m : Int) (by omega) (by omega)
  rw [h, elem_ints, run_sizeOf W hi, Result.andThen_ok]
  simp [sliced, Addr.add]

/-- The tail of a slice from a place on. -/
theorem slice_tail (W : World) (g n c m : Nat) (hm : m ≤ n) (_ : n ≤ c) :
    (Instr.slice 26 (.slice (some ⟨g, 0, none⟩) n c) (some (.int .i64 (m : Int))) none none).run Tryd.prog W = .ok (.slice (some (if c = m then ⟨g, 0, none⟩ else ⟨g, m, none⟩)) (n - m) (c - m)) W := by
  obtain ⟨i, hi, _, hs, _⟩ := info_parts int_info
  have h := run_slice_l (P := Tryd.prog) W 26 (some ⟨g, 0, none⟩) n c (by rw [elem_ints]; exact Tryd.underlying26) .i64 (m : Int) (by omega) (by omega)
  rw [h, elem_ints, run_sizeOf W hi, Result.andThen_ok, cells_int]
  by_cases e : c = m
  · simp [sliced, e]
  · simp [sliced, e, Addr.add_lit]

set_option maxRecDepth 4000 in
set_option maxHeartbeats 2000000 in
theorem byS_any (n : Nat) (k0 : Int) (w : World) (h3 : 3 ≤ n) (h7 : n ≤ 7) (h0 : 0 ≤ k0) (hk : k0 < facN (n - 1)) :
    Calls Tryd.prog 51 #[.int .i64 (n : Int), .int .i64 k0] w fun e w' => ∃ v, e = .returned v ∧ Own w' w.heap.size v (byL n k0) ∧ Below w.heap.size w w' := by
  obtain ⟨i0, hi, hz0, hz1, hz2⟩ := info_parts int_info
  have HC0 := Lib.hid (byL_eq n k0 (by omega) h7 h0 hk)
  have HCL := Lib.hid (byL_length n k0)
  have HK0 := Lib.hid hk
  clear hk
  generalize byL n k0 = C at *
  have ho0 := Lib.hid (own_empty w _ (Nat.le_refl _))
  have hb0 := (Below.refl w.heap.size w).alloc (Nat.le_refl _) (.cells #[] 3)
  go_enter Tryd.func51, Tryd.ntmps51
  go_wp2
  obtain ⟨W0, hW0⟩ : ∃ W, W = w.alloc (.cells #[] 3) := ⟨_, rfl⟩
  rw [← hW0] at ho0 hb0 ⊢
  clear hW0
  go_loopw [5, 6] (fun v i wr => ∃ k : Nat, k + 1 ≤ n ∧ i = .int .i64 ((k : Int) + 1) ∧ Hid (wr.ownsRow w.heap.size 3 1 v k (ints (upFrom 1 k))) ∧ Below w.heap.size w wr) (fun _ i _ => n - (intOf i).toNat)
  case atStart => exact ⟨0, by omega, by go_num, by simpa [Own, Hid, ints, upFrom] using ho0.out, hb0⟩
  case round =>
    obtain ⟨k, hk, rfl, hown, hbl⟩ := hrel
    clear ho0 hb0
    by_cases hlt : k + 1 < n
    · have hsn : Hid (ints (upFrom 1 k) ++ [.int .i64 ((k : Int) + 1)] = ints (upFrom 1 (k + 1))) := by
        rw [Hid, upFrom_snoc, ints, ints, List.map_append]
        simp [Int.add_comm]
      go_wp2_with (at_builtin; refine wpList_append_own _ rfl _ _ 26 rfl w.heap.size 3 i0 (.int .i64 0) 1 8 Tryd.underlying26 hi hz0 hz1 hz2 rfl (by decide) _ _ _ rfl (hown.out.alloc _) ⟨wr.heap.size, 0, none⟩ 1 1 [.int .i64 ((k : Int) + 1)] rfl rfl (one_cell wr _ _) (by simp [Value.oneCell']) (by unfold maxLen; omega) (by omega) (by have := hbl.size; simp; omega) ?_)
      intro v' w1 hown' hgrow _
      rw [hsn.out] at hown'
      have HO := Lib.hid hown'
      have hb1 := own_below hown.out hbl hbl.size hgrow
      clear hown' hgrow
      go_wp2
      go_roundw
      case rel => exact ⟨k + 1, by omega, by go_num, HO, hb1⟩
      case measure => simp [intOf]; omega
    · obtain ⟨k', rfl⟩ : ∃ k', k' = k := ⟨k, rfl⟩
      have hkn : k' + 1 = n := by omega
      have HKN := Lib.hid hkn
      have hln := hown.out.lt
      have HLB : Hid (∀ q, u5.ownBlock = some q → q < wr.heap.size) := fun q hq => (hln q hq).2
      have hs1 := hbl.size
      have hnl : (n : Int) ≤ (k' : Int) + 1 := by omega
      have hO : (wr.alloc (.cells #[.int .i64 0] 3)).ownsRow w.heap.size 3 1 (.slice (some ⟨wr.heap.size, 0, none⟩) 1 1) 1 (ints [0]) := World.ownsRow_lit wr #[.int .i64 0] 1 hs1 (by unfold maxLen; omega) rfl
      have hL : (wr.alloc (.cells #[.int .i64 0] 3)).ownsRow w.heap.size 3 1 u5 k' (ints (upFrom 1 k')) := hown.out.alloc _
      have hb2 := Lib.hid (hbl.alloc hs1 (.cells #[.int .i64 0] 3))
      have HO := Lib.hid hO
      have HL := Lib.hid hL
      have HNE : Hid (∀ q, u5.ownBlock = some q → (Value.slice (some ⟨wr.heap.size, 0, none⟩) 1 1).ownBlock ≠ some q) := fun q hq he => by
        have := HLB.out q hq
        simp [Value.ownBlock] at he
        omega
      clear hln hkn hO hL hown hbl HLB
      go_wp2
      obtain ⟨wo, rfl⟩ : ∃ wo : World, wo = wr := ⟨_, rfl⟩
      go_loopw [1, 5, 7, 8] (fun kk vl vo i wr => ∃ (m : Nat) (L O : List Int) (q : Int), m + 1 ≤ n ∧ i = .int .i64 ((m : Int) - 1) ∧ kk = .int .i64 q ∧ 0 ≤ q ∧
          Hid (q < facN m ∧ L.length = m ∧ O.length = n - m ∧ O ++ takeBy m L q = C) ∧ Hid (wr.ownsRow w.heap.size 3 1 vl m (ints L)) ∧ Hid (wr.ownsRow w.heap.size 3 1 vo (n - m) (ints O)) ∧
          Hid (∀ q, vl.ownBlock = some q → vo.ownBlock ≠ some q) ∧ Hid (Below w.heap.size w wr)) (fun _ _ _ i _ => (intOf i + 1).toNat)
      case atStart =>
        refine ⟨k', upFrom 1 k', [0], k0, by have := HKN.out; omega, by have := HKN.out; go_num, rfl, h0, ?_, HL, ?_, HNE, hb2⟩
        · have e := HKN.out
          have e1 : n - 1 = k' := by omega
          have e2 : n - k' = 1 := by omega
          refine ⟨by rw [← e1]; exact HK0.out, by simp, by rw [e2]; rfl, ?_⟩
          rw [HC0.out, e1]; rfl
        · have e2 : n - k' = 1 := by have := HKN.out; omega
          rw [e2]; exact HO
      case round =>
        obtain ⟨m, L, O, q, hm, rfl, rfl, hq0, hall, hL, hO, hne, hbl⟩ := hrel
        clear HL HO HNE hb2 HK0 HC0
        by_cases hm0 : m = 0
        · subst hm0
          have hfin : Hid (O = C) := by
            have := hall.out.2.2.2
            rw [takeBy, List.append_nil] at this
            exact this
          have hOl := hall.out.2.2.1
          have HOl := Lib.hid hOl
          clear hOl
          go_wp2
          go_ret
          refine ⟨_, rfl, ?_, hbl.out⟩
          have := hO.out
          rw [hfin.out] at this
          have e : n - 0 = C.length := by rw [← hfin.out, HOl.out]
          rw [e] at this
          exact this
        · obtain ⟨m', rfl⟩ : ∃ m', m = m' + 1 := ⟨m - 1, by omega⟩
          obtain ⟨hqf, hLl, hOl, hct⟩ := hall.out
          have hmb := place_bd m' q (by omega) hq0 hqf
          rw [takeBy] at hct
          have hfb := facN_bd m'
          obtain ⟨f, hf⟩ : ∃ f, f = facN m' := ⟨_, rfl⟩
          rw [← hf] at hmb hct hfb
          obtain ⟨pl, hpl⟩ : ∃ pl : Nat, q / f = (pl : Int) := ⟨(q / f).toNat, by omega⟩
          obtain ⟨r, hr⟩ : ∃ r, r = q % f := ⟨_, rfl⟩
          rw [hpl, ← hr, Int.toNat_natCast] at hct
          obtain ⟨hp0, hp1, hr0, hr1⟩ := hmb
          rw [← hr] at hr0 hr1
          rw [hpl] at hp1
          have hplm : pl ≤ m' := by omega
          obtain ⟨hf1, hf2⟩ := hfb
          have hm6 : m' ≤ 6 := by omega
          have hquo : wrap64 (q.tdiv f) = (pl : Int) := by
            rw [Int.tdiv_eq_ediv_of_nonneg hq0, hpl]
            exact IntWalk.wrap64_in _ ⟨by omega, by omega⟩
          have hrr := hr.symm
          have HRE := Lib.hid hrr
          have HF := Lib.hid hf
          have HRF : Hid (r < facN m') := by rw [Hid, ← HF.out]; exact hr1
          have HLL := Lib.hid hLl
          have HOL := Lib.hid hOl
          have HCT : Hid ((O ++ [L.getD pl 0]) ++ takeBy m' (L.eraseIdx pl) r = C) := by
            rw [Hid, List.append_assoc]; exact hct
          have HEL : Hid ((L.eraseIdx pl).length = m') := by rw [Hid, List.length_eraseIdx, if_pos (by omega)]; omega
          rcases hL.out.2 with ⟨_, h00⟩ | ⟨gl, cl, cur, rfl, hgB, hh, hnc, hcm, hcs, htk⟩
          · omega
          · have hcx : wr.cell? ⟨gl, pl, none⟩ = some (.int .i64 (L.getD pl 0)) := by
              rw [hL.out.cellAt pl (by omega), ints_get _ _ (by omega)]
            have hgl : gl < wr.heap.size := (hL.out.lt gl rfl).2
            have hsz := hbl.out.size
            have hsnO : Hid (ints O ++ [.int .i64 (L.getD pl 0)] = ints (O ++ [L.getD pl 0])) := by rw [Hid, ints, ints, List.map_append]; rfl
            have hneq := Lib.hid (fun e => hne.out gl rfl (Eq.symm e))
            unfold maxLen at hcm
            clear hall hqf hLl hOl hct hf hr hr1 hgB hh hcs htk
            obtain ⟨x, hx⟩ : ∃ x, x = L.getD pl 0 := ⟨_, rfl⟩
            rw [← hx] at hcx hsnO HCT
            clear hx
            go_wp2_with fail
            refine (facS_nat m' _ _ (by omega) (by omega)).mono ?_
            rintro e w' ⟨rfl, rfl⟩
            rw [← HF.out]
            go_wp2_with (at_builtin; refine wpList_append_own_at _ rfl _ _ 26 rfl w.heap.size 3 i0 (.int .i64 0) 1 8 Tryd.underlying26 hi hz0 hz1 hz2 rfl (by decide) _ _ _ rfl (hO.out.alloc _) ⟨wr.heap.size, 0, none⟩ 1 1 [.int .i64 x] rfl rfl (one_cell wr _ _) (by simp [Value.oneCell']) (by unfold maxLen; omega) (by omega) (by simp; omega) ?_)
            intro vo1 w1 ho1 hg1 _ hat1
            rw [hsnO.out] at ho1
            have hs1 := hg1.size
            have hL1 := (hL.out.alloc (.cells #[.int .i64 x] 3)).kept hg1 (.inr hneq.out)
            have hb1 := hbl.out.alloc (by omega) (.cells #[.int .i64 x] 3)
            have hb2 := Lib.hid (hb1.grown hg1 (by simp; omega) (fun z hz => (hO.out.lt z hz).1))
            have hn1 : Hid (∀ z, vo1.ownBlock = some z → z ≠ gl ∧ z < w1.heap.size) := fun z hz => by
              refine ⟨?_, (ho1.lt z hz).2⟩
              rcases hat1 with e | e
              · rw [e] at hz
                intro hzz
                subst hzz
                exact hneq.out hz.symm
              · rw [e] at hz
                injection hz with hz
                have hz2 : wr.heap.size + 1 = z := by simpa using hz
                omega
            have hglw : gl < w1.heap.size := by simp at hs1; omega
            have hBw1 : w.heap.size ≤ w1.heap.size := by simp at hs1; omega
            have HO1 := Lib.hid ho1
            have HLC : Hid (∀ W : World, (∀ z, z < w1.heap.size → W.heap[z]? = w1.heap[z]?) → ∀ (o m2 : Nat) (news : List Int), (∀ j, j < news.length → news.getD j 0 = L.getD (o + j) 0) → news.length = m2 → o + m2 ≤ m' + 1 →
                ∀ j u, (ints news)[j]? = some u → W.cell? ((⟨gl, o, none⟩ : Addr).add j) = some u) := fun W hW o m2 news hnew hnl hom j u hu => by
              have hj : j < news.length := by
                have := (List.getElem?_eq_some_iff.1 hu).1
                simpa using this
              rw [Addr.add_lit, World.cell?_of_block (w := w1) (hW gl hglw), hL1.cellAt (o + j) (by omega), ints_get _ _ (by rw [HLL.out]; omega), ← hnew j hj, ← hu, ints_get _ _ hj]
            have HE0 := Lib.hid (show (w1.alloc (.cells #[] 3)).drew.ownsRow w.heap.size 3 1 (.slice (some ⟨w1.heap.size, 0, none⟩) 0 0) 0 [] from own_empty w1 _ hBw1)
            have htake : Hid (∀ j, j < (L.take pl).length → (L.take pl).getD j 0 = L.getD (0 + j) 0) := fun j hj => by
              have hj2 : j < pl := by
                have := List.length_take_le pl L
                omega
              simp [List.getD, hj2]
            have hdrop : Hid (∀ j, j < (L.drop (pl + 1)).length → (L.drop (pl + 1)).getD j 0 = L.getD (pl + 1 + j) 0) := fun j _ => by
              simp [List.getD]
            have htl : Hid ((L.take pl).length = pl) := by rw [Hid, List.length_take, HLL.out]; omega
            have hdl : Hid ((L.drop (pl + 1)).length = m' + 1 - (pl + 1)) := by rw [Hid, List.length_drop, HLL.out]
            have hfin : Hid ([] ++ ints (L.take pl) ++ ints (L.drop (pl + 1)) = ints (L.eraseIdx pl)) := by
              rw [Hid, List.eraseIdx_eq_take_drop_succ]; simp [ints]
            have hw1 : IntKind.i64.wrap ((pl : Int) + 1) = (pl : Int) + 1 := IntWalk.i64_in _ (by omega)
            clear hL1 hb1 hg1 ho1 hat1 hL hO hne hbl hcx
            have hsA := fun W => slice_head W gl (m' + 1) cl pl (by omega)
            obtain ⟨ad, hade⟩ : ∃ ad : Addr, ad = if cl = pl + 1 then ⟨gl, 0, none⟩ else ⟨gl, pl + 1, none⟩ := ⟨_, rfl⟩
            have had : pl + 1 < cl → ad = ⟨gl, pl + 1, none⟩ := fun hlt => by rw [hade, if_neg (by omega)]
            have hsB : ∀ W : World, (Instr.slice 26 (.slice (some ⟨gl, 0, none⟩) (m' + 1) cl) (some (.int .i64 ((pl : Int) + 1))) none none).run Tryd.prog W = .ok (.slice (some ad) (m' + 1 - (pl + 1)) (cl - (pl + 1))) W := fun W => by
              have hr := slice_tail W gl (m' + 1) cl (pl + 1) (by omega) (by omega)
              rw [show (((pl + 1 : Nat)) : Int) = (pl : Int) + 1 by omega, ← hade] at hr
              exact hr
            clear hade
            have HLD : Hid (∀ W : World, (∀ z, z < w1.heap.size → W.heap[z]? = w1.heap[z]?) → ∀ j u, (ints (L.drop (pl + 1)))[j]? = some u → W.cell? (ad.add j) = some u) := fun W hW j u hu => by
              have hj : j < (L.drop (pl + 1)).length := by
                have := (List.getElem?_eq_some_iff.1 hu).1
                simpa using this
              have hj2 := hdl.out
              rw [had (by omega)]
              exact HLC.out W hW (pl + 1) _ _ hdrop.out hdl.out (by omega) j u hu
            clear had
            go_wp2
            go_region_law (first
              | (refine step_append_at _ rfl (.tmp 43) (.tmp 46) rfl w.heap.size _ 0 [] (by simp [Act.eval]) HE0.out ⟨gl, 0, none⟩ pl cl (L.take pl) (by simp [Act.eval]) htl.out (HLC.out _ (fun z hz => Below.heap_alloc _ _ _ hz) 0 pl _ htake.out htl.out (by omega)) (by omega) (by simp; omega) ?_; intro v1 w2 hv1 hgv1 hatv1; have HV1 := Lib.hid hv1; have hs2 := hgv1.size; have HW2 := Lib.hid (fun z (hz : z < w1.heap.size) => (hgv1.block z (by simp; omega) (by simp [Value.ownBlock]; omega)).trans (Below.heap_alloc w1 _ z hz)); clear hv1)
              | (refine step_append_at _ rfl (.tmp 47) (.tmp 51) rfl w.heap.size v1 (0 + pl) ([] ++ ints (L.take pl)) (by simp [Act.eval]) HV1.out ad (m' + 1 - (pl + 1)) (cl - (pl + 1)) (L.drop (pl + 1)) (by simp [Act.eval]) hdl.out (HLD.out _ HW2.out) (by omega) (by simp at hs2; omega) ?_; intro v2 w3 hv2 hgv2 hatv2))
            have hr1b : ∀ z, v1.ownBlock = some z → w1.heap.size ≤ z := fun z hz => by
              rcases hatv1 with e | e
              · rw [e] at hz
                simp [Value.ownBlock] at hz
                omega
              · rw [e] at hz
                injection hz with hz
                have : w1.heap.size + 1 = z := by simpa using hz
                omega
            have hs2b : w1.heap.size ≤ w2.heap.size := by simp at hs2; omega
            have hr2b : ∀ z, v2.ownBlock = some z → w1.heap.size ≤ z := fun z hz => by
              rcases hatv2 with e | e
              · rw [e] at hz
                exact hr1b z hz
              · rw [e] at hz
                injection hz with hz
                omega
            have HO3 : Hid (w3.ownsRow w.heap.size 3 1 vo1 (n - m') (ints (O ++ [x]))) := by
              have e1 : n - (m' + 1) + 1 = n - m' := by omega
              have h1 := ((HO1.out.alloc (.cells #[] 3)).drew).kept hgv1 (by
                rcases hv : vo1.ownBlock with _ | z
                · exact .inl rfl
                · right
                  intro e
                  simp [Value.ownBlock] at e
                  have := (hn1.out z hv).2
                  omega)
              have h2 := h1.kept hgv2 (by
                rcases hv : vo1.ownBlock with _ | z
                · exact .inl rfl
                · right
                  intro e
                  have := (hn1.out z hv).2
                  have := hr1b z e.symm
                  omega)
              rw [e1] at h2
              exact h2
            have HL3 : Hid (w3.ownsRow w.heap.size 3 1 v2 m' (ints (L.eraseIdx pl))) := by
              have e1 : 0 + pl + (m' + 1 - (pl + 1)) = m' := by omega
              rw [e1, hfin.out] at hv2
              exact hv2
            have HN3 : Hid (∀ z, v2.ownBlock = some z → vo1.ownBlock ≠ some z) := fun z hz e => by
              have := hr2b z hz
              have := (hn1.out z e).2
              omega
            have HB3 : Hid (Below w.heap.size w w3) :=
              (((hb2.out.alloc hBw1 (.cells #[] 3)).drew).grown hgv1 (by simp; omega) (by simp [Value.ownBlock]; omega)).grown hgv2 (by omega) (fun z hz => by have := hr1b z hz; omega)
            have HALL : Hid (r < facN m' ∧ (L.eraseIdx pl).length = m' ∧ (O ++ [x]).length = n - m' ∧ (O ++ [x]) ++ takeBy m' (L.eraseIdx pl) r = C) :=
              ⟨HRF.out, HEL.out, by rw [List.length_append, HOL.out]; simp; omega, HCT.out⟩
            clear hr1b hr2b hv2 hgv1 hgv2 hatv1 hatv2 hsA hsB hquo hrr hw1
            go_wp2
            go_roundw
            case rel => exact ⟨m', L.eraseIdx pl, O ++ [x], r, by omega, by go_num, by first | rfl | rw [HRE.out], hr0, HALL, HL3, HO3, HN3, HB3⟩
            case measure => simp [intOf]
end Go.Proofs.YtgojojoanhilnabDoor
