/- The laws' drawer of a ring and a list of all points. -/
import Derived.Test.YtamnacgclhaggabDraw8
namespace Go.Proofs.Ytamnacgclhaggab
open Go.ChangeShapes Go.WideShapes Go.ChangeAt Go.RowKit

set_option maxRecDepth 10000 in
set_option maxHeartbeats 8000000 in
theorem drawRingNamed_any (n c H : Nat) (A : Option Addr) (w : World) (hb : Byt w H A n) (hH : H ≤ w.heap.size) (hnc : n ≤ c) (hc : c ≤ 9223372036854775807) :
    Calls Try.prog 42 #[.slice A n c] w fun e w' => ∃ v v' l p, e = .returned (.tuple #[v, v']) ∧ NewR w' v l ∧ NewR w' v' p ∧ Below w.heap.size w w' := by
  have HOP := Lib.hid (openS_any n c H A w hb hH hnc hc)
  clear hb
  go_enter Try.func42, Try.ntmps42
  go_wp2_with fail
  refine HOP.out.mono ?_
  rintro e w1 ⟨rfl, ⟨n', hn', h1, h2⟩, hb1⟩
  have HRG := Lib.hid (ring91_any w.heap.size n' c H 0 7 A w1 h1 h2 hH (by omega) hn' (by omega) (by omega))
  have HB1 := Lib.hid hb1
  have HY1 := Lib.hid h2
  have hlt := h1.lt
  generalize hR : w.heap.size = R at *
  have HRq := Lib.hid hR
  clear h1 h2 hb1 HOP hR
  go_wp2_with fail
  refine HRG.out.mono ?_
  rintro e w2 ⟨v, la, q, rfl, hv, ⟨hl, h1, hq⟩, hg⟩
  have HB2 := Lib.hid (below_grown HB1.out hg hlt)
  have HY2 := Lib.hid (HY1.out.grown hg hH)
  obtain ⟨Av, cv, ev, hcv1, hcv2⟩ := hv.2
  subst ev
  have HV2 := Lib.hid hv
  have hlt2 := h1.lt
  have HP2 := Lib.hid (pick_any R n' c H q 24 A w2 h1 HY2.out hH (by omega) hn' (by omega) (by omega))
  obtain ⟨ml, hml, hml7⟩ : ∃ ml : Nat, max 3 (la.length : Int) = (ml : Int) ∧ 3 ≤ ml ∧ ml ≤ 7 := ⟨max 3 la.length, by omega, by omega, by omega⟩
  clear hv h1 hg HB1 HRG HY1
  go_wp2_with (first
    | (go_at_call 71
       refine HP2.out.mono ?_
       rintro e w3 ⟨⟨v3, hv3, rfl⟩, h1, hg, hz3⟩
       have HB3 := Lib.hid (below_grown HB2.out hg hlt2)
       have HY3 := Lib.hid (HY2.out.grown hg hH)
       have HV3 := Lib.hid (HV2.out.grown5 hg hlt)
       have hlt3 := h1.lt
       have HR3 := Lib.hid h1
       obtain ⟨q3, k3, t3⟩ := tdiv_one v3 23 (by omega)
       have t3' : Int.tdiv (v3 : Int) 23 = (q3 : Int) := t3
       have x3 : IntKind.i64.wrap (q3 : Int) = (q3 : Int) := IntWalk.i64_in _ (by omega)
       obtain ⟨m, hm⟩ : ∃ m : Nat, m = ml - q3 := ⟨_, rfl⟩
       have y3 : IntKind.i64.wrap ((ml : Int) - (q3 : Int)) = (m : Int) := by rw [IntWalk.i64_in _ (by omega)]; omega
       have hm7 : m ≤ 7 := by omega
       clear h1 hg HB2 HP2 HY2 HV2 hz3 hlt2 t3 hm))
  have HO0 : Hid ((w3.alloc (.cells #[] 3)).ownsRow w3.heap.size 3 1 (.slice (some ⟨w3.heap.size, 0, none⟩) 0 0) 0 (ints [])) := own_empty w3 _ (Nat.le_refl _)
  have HG0 : Hid (w3.grownBy (w3.alloc (.cells #[] 3)) (some R)) := World.grownBy_alloc w3 _ _
  have HR0 : Hid (RdAt (w3.alloc (.cells #[] 3)) R A n' c (q + 1)) := HR3.out.same (Below.heap_alloc w3 _ R hlt3)
  have HB0 := Lib.hid (HY3.out.grown HG0.out hH)
  have HS0 : Hid (∃ g cl, Value.slice (some ⟨w3.heap.size, 0, none⟩) 0 0 = Value.slice (some ⟨g, 0, none⟩) 0 cl) := ⟨_, _, rfl⟩
  generalize w3.alloc (.cells #[] 3) = W0 at *
  generalize hB : w3.heap.size = B at *
  have HB := Lib.hid hB
  have hRB : R < B := by omega
  clear hB HR3 HY3
  go_loopw [7, 8] (fun v i wr => ∃ (k : Nat) (l : List Int) (q' : Nat), k ≤ m ∧ i = .int .i64 k ∧ Hid (∃ g cl, v = .slice (some ⟨g, 0, none⟩) k cl) ∧ Hid (l.length = k) ∧ Hid (wr.ownsRow B 3 1 v k (ints l)) ∧ Hid (RdAt wr R A n' c q') ∧ q' ≤ 30 + k ∧ Hid (Byt wr H A n') ∧ Hid (w3.grownBy wr (some R))) (fun _ i _ => m - (intOf i).toNat)
  case atStart => exact ⟨0, [], q + 1, Nat.zero_le _, rfl, HS0, Lib.hid rfl, HO0, HR0, by omega, HB0, HG0⟩
  case round =>
    obtain ⟨k, l, q, hk, rfl, hshape, hl, hown, hrd, hq, hby, hgr⟩ := hrel
    clear HO0 HR0 HB0 HG0 HS0
    by_cases hlt : k < m
    · obtain ⟨g, cl, cur, e, hgB, hgc, hkc, hcm⟩ : ∃ g cl cur, u7 = .slice (some ⟨g, 0, none⟩) k cl ∧ B ≤ g ∧ wr.heap[g]? = some (.cells cur 3 (0, 0)) ∧ k ≤ cl ∧ cl ≤ maxLen := by
        rcases hown.out.2 with ⟨e, _⟩ | ⟨g, cap, cur, e, h1, h2, h3, h4, _⟩
        · obtain ⟨g, cl, e2⟩ := hshape.out
          rw [e] at e2
          cases e2
        · exact ⟨g, cap, cur, e, h1, h2, h3, h4⟩
      subst e
      have hgs := (Array.getElem?_eq_some_iff.1 hgc).1
      clear hgc
      have HPk := Lib.hid (pick_any R n' c H q (k + 1) A wr hrd.out hby.out hH (by omega) hn' (by omega) (by omega))
      rw [show ((k + 1 : Nat) : Int) = (k : Int) + 1 by omega] at HPk
      have hwk : IntKind.i64.wrap ((k : Int) + 1) = (k : Int) + 1 := IntWalk.i64_in _ (by omega)
      go_wp2_with fail
      refine HPk.out.mono ?_
      rintro e w1 ⟨⟨v1, hv1, rfl⟩, h1, h2, h3⟩
      have HR1 := Lib.hid h1
      have HB1 := Lib.hid (hby.out.grown h2 hH)
      have HG1 := Lib.hid (grown_trans hgr.out h2)
      have HS1 := Lib.hid h3
      have hBR : B ≤ w1.heap.size := by rw [h3]; omega
      have hg1 : g < w1.heap.size := by rw [h3]; omega
      have hcells : Hid (∀ j u, (ints l)[j]? = some u → w1.cell? ⟨g, j, none⟩ = some u) := by
        intro j u hu
        rcases hown.out.2 with ⟨e, _⟩ | ⟨g', cap, cur, e, _, hgg, _, _, _, ht⟩
        · cases e
        · injection e with e1 _ _
          injection e1 with e1
          injection e1 with e1
          subst e1
          have hb1 : w1.heap[g]? = wr.heap[g]? := h2.block g hgs (fun e => by have e1 : g = R := Option.some.inj e; omega)
          rw [cell_of_row w1 g j _ _ (0, 0) (hb1.trans hgg)]
          rw [← ht, List.getElem?_take] at hu
          split at hu
          · rw [← Array.getElem?_toList]; exact hu
          · cases hu
      clear h1 h2 h3 hrd hby hgr hown hshape
      obtain ⟨pl, hpl⟩ : ∃ pl, pl = v1 := ⟨_, rfl⟩
      rw [← hpl]
      have hplk : pl ≤ k := by omega
      clear hpl hv1 HPk hwk
      have hsA := fun W => slice_head W g k cl pl (by omega)
      obtain ⟨ad, hade⟩ : ∃ ad : Addr, ad = if cl = pl then ⟨g, 0, none⟩ else ⟨g, pl, none⟩ := ⟨_, rfl⟩
      have hsB : ∀ W : World, (Instr.slice 23 (.slice (some ⟨g, 0, none⟩) k cl) (some (.int .i64 (pl : Int))) none none).run Try.prog W = .ok (.slice (some ad) (k - pl) (cl - pl)) W := fun W => by
        rw [hade]; exact slice_tail W g k cl pl (by omega) (by omega)
      have had : pl < k → ad = ⟨g, pl, none⟩ := fun h => by rw [hade, if_neg (by omega)]
      clear hade
      have HTK : Hid (∀ W : World, (∀ z, z < w1.heap.size → W.heap[z]? = w1.heap[z]?) → ∀ j u, (ints (l.take pl))[j]? = some u → W.cell? ((⟨g, 0, none⟩ : Addr).add j) = some u) := fun W hW j u hu => by
        rw [Addr.add_lit, Nat.zero_add, World.cell?_of_block (w := w1) (hW g hg1)]
        refine hcells.out j u ?_
        simp only [ints, List.map_take, List.getElem?_take] at hu
        split at hu
        · exact hu
        · cases hu
      have HDP : Hid (∀ W : World, (∀ z, z < w1.heap.size → W.heap[z]? = w1.heap[z]?) → ∀ j u, (ints (l.drop pl))[j]? = some u → W.cell? (ad.add j) = some u) := fun W hW j u hu => by
        have hj : j < (l.drop pl).length := by
          have := (List.getElem?_eq_some_iff.1 hu).1
          simpa using this
        rw [List.length_drop, hl.out] at hj
        rw [had (by omega), Addr.add_lit, World.cell?_of_block (w := w1) (hW g hg1)]
        refine hcells.out (pl + j) u ?_
        simp only [ints, List.map_drop, List.getElem?_drop] at hu
        exact hu
      have HLT : Hid ((l.take pl).length = pl) := by rw [Hid, List.length_take, hl.out]; omega
      have HLD : Hid ((l.drop pl).length = k - pl) := by rw [Hid, List.length_drop, hl.out]
      have HE0 : Hid ((w1.alloc (.cells #[] 3)).drew.ownsRow B 3 1 (.slice (some ⟨w1.heap.size, 0, none⟩) 0 0) 0 []) := Lib.hid (show _ from own_empty w1 _ hBR)
      have HE1 : Hid ((w1.alloc (.cells #[] 3)).ownsRow B 3 1 (.slice (some ⟨w1.heap.size, 0, none⟩) 0 0) 0 []) := Lib.hid (own_empty w1 _ hBR)
      have HE2 : Hid (((w1.alloc (.cells #[.int .i64 (k : Int)] 3)).alloc (.cells #[] 3)).ownsRow B 3 1 (.slice (some ⟨w1.heap.size + 1, 0, none⟩) 0 0) 0 []) := by
        have h := own_empty (w1.alloc (.cells #[.int .i64 (k : Int)] 3)) B (by simp; omega)
        rw [show (w1.alloc (.cells #[.int .i64 (k : Int)] 3)).heap.size = w1.heap.size + 1 by simp] at h
        exact h
      clear hcells had
      go_wp2
      go_region_law (first
        | (refine step_append_at _ rfl (.tmp 32) (.tmp 35) rfl B _ 0 [] (by simp [Act.eval]) HE0.out ⟨g, 0, none⟩ pl cl (l.take pl) (by simp [Act.eval]) HLT.out (HTK.out _ (fun z hz => Below.heap_alloc _ _ _ hz)) (by omega) (by simp; omega) ?_; intro v3 w3 hv3 hgv3 hatv3; have HV3 := Lib.hid hv3; have hs3 := hgv3.size; have HW3 := Lib.hid (fun z (hz : z < w1.heap.size) => (hgv3.block z (by simp; omega) (by simp [Value.ownBlock]; omega)).trans (Below.heap_alloc w1 _ z hz)); have HK3 := Lib.hid (own_up w1 hatv3); have HG3 := Lib.hid hgv3; clear hv3 hgv3 hatv3)
        | (refine step_append_at _ rfl (.tmp 32) (.tmp 35) rfl B _ 0 [] (by simp [Act.eval]) (HE1.out.alloc _).drew ⟨g, 0, none⟩ pl cl (l.take pl) (by simp [Act.eval]) HLT.out (HTK.out _ (fun z hz => (Below.heap_alloc _ _ _ (by simp; omega)).trans (Below.heap_alloc _ _ _ hz))) (by omega) (by simp; omega) ?_; intro v3 w3 hv3 hgv3 hatv3; have HV3 := Lib.hid hv3; have hs3 := hgv3.size; have HW3 := Lib.hid (fun z (hz : z < w1.heap.size) => (hgv3.block z (by simp; omega) (by simp [Value.ownBlock]; omega)).trans ((Below.heap_alloc _ _ z (by simp; omega)).trans (Below.heap_alloc w1 _ z hz))); have HK3 := Lib.hid (own_up3 w1 hatv3); have HC3 := Lib.hid (two_cell w1 k hgv3); have HG3 := Lib.hid hgv3; clear hv3 hgv3 hatv3)
        | (refine step_append_at _ rfl (.tmp 32) (.tmp 35) rfl B _ 0 [] (by simp [Act.eval]) HE2.out.drew ⟨g, 0, none⟩ pl cl (l.take pl) (by simp [Act.eval]) HLT.out (HTK.out _ (fun z hz => (Below.heap_alloc _ _ _ (by simp; omega)).trans (Below.heap_alloc _ _ _ hz))) (by omega) (by simp; omega) ?_; intro v3 w3 hv3 hgv3 hatv3; have HV3 := Lib.hid hv3; have hs3 := hgv3.size; have HW3 := Lib.hid (fun z (hz : z < w1.heap.size) => (hgv3.block z (by simp; omega) (by simp [Value.ownBlock]; omega)).trans ((Below.heap_alloc _ _ z (by simp; omega)).trans (Below.heap_alloc w1 _ z hz))); have HK3 := Lib.hid (own_up4 w1 hatv3); have HC3 := Lib.hid (two_cell2 w1 k hgv3); have HG3 := Lib.hid hgv3; clear hv3 hgv3 hatv3)
        | (refine step_append_at _ rfl (.tmp 36) (.tmp 38) rfl B v3 (0 + pl) ([] ++ ints (l.take pl)) (by simp [Act.eval]) (HV3.out.alloc _) ⟨w3.heap.size, 0, none⟩ 1 1 [(k : Int)] (by simp [Act.eval]) rfl (one_cell w3 _ _) (by omega) (by simp at hs3 ⊢; omega) ?_; intro v4 w4 hv4 hgv4 hatv4; have HV4 := Lib.hid hv4; have hs4 := hgv4.size; have HW4 := Lib.hid (fun z (hz : z < w1.heap.size) => (hgv4.block z (by simp at hs3 ⊢; omega) (fun e => by have := HK3.out z e.symm; omega)).trans ((Below.heap_alloc w3 _ z (by simp at hs3; omega)).trans (HW3.out z hz))); have HK4 := Lib.hid (own_up2 HK3.out hatv4 (by simp at hs3 ⊢; omega)); have HG4 := Lib.hid hgv4; clear hv4 hgv4 hatv4)
        | (refine step_append_at _ rfl (.tmp 36) (.tmp 38) rfl B v3 (0 + pl) ([] ++ ints (l.take pl)) (by simp [Act.eval]) HV3.out ⟨w1.heap.size + 1, 0, none⟩ 1 1 [(k : Int)] (by simp [Act.eval]) rfl HC3.out (by omega) (by simp at hs3 ⊢; omega) ?_; intro v4 w4 hv4 hgv4 hatv4; have HV4 := Lib.hid hv4; have hs4 := hgv4.size; have HW4 := Lib.hid (fun z (hz : z < w1.heap.size) => (hgv4.block z (by simp at hs3 ⊢; omega) (fun e => by have := HK3.out z e.symm; omega)).trans (HW3.out z hz)); have HK4 := Lib.hid (own_up2 HK3.out hatv4 (by simp at hs3 ⊢; omega)); have HG4 := Lib.hid hgv4; clear hv4 hgv4 hatv4)
        | (refine step_append_at _ rfl (.tmp 36) (.tmp 38) rfl B v3 (0 + pl) ([] ++ ints (l.take pl)) (by simp [Act.eval]) HV3.out ⟨w1.heap.size, 0, none⟩ 1 1 [(k : Int)] (by simp [Act.eval]) rfl HC3.out (by omega) (by simp at hs3 ⊢; omega) ?_; intro v4 w4 hv4 hgv4 hatv4; have HV4 := Lib.hid hv4; have hs4 := hgv4.size; have HW4 := Lib.hid (fun z (hz : z < w1.heap.size) => (hgv4.block z (by simp at hs3 ⊢; omega) (fun e => by have := HK3.out z e.symm; omega)).trans (HW3.out z hz)); have HK4 := Lib.hid (own_up2 HK3.out hatv4 (by simp at hs3 ⊢; omega)); have HG4 := Lib.hid hgv4; clear hv4 hgv4 hatv4)
        | (refine step_append_at _ rfl (.tmp 39) (.tmp 42) rfl B v4 (0 + pl + 1) ([] ++ ints (l.take pl) ++ ints [(k : Int)]) (by simp [Act.eval]) HV4.out ad (k - pl) (cl - pl) (l.drop pl) (by simp [Act.eval]) HLD.out (HDP.out _ HW4.out) (by omega) (by simp at hs3 hs4; omega) ?_; intro v5 w5 hv5 hgv5 hatv5))
      all_goals
        have hs5 := hgv5.size
        have HW5 := Lib.hid (fun z (hz : z < w1.heap.size) => (hgv5.block z (by simp at hs3 hs4; omega) (fun e => by have := HK4.out z e.symm; omega)).trans (HW4.out z hz))
        have HLEN : Hid ((l.take pl ++ [(k : Int)] ++ l.drop pl).length = k + 1) := by
          have h1 := HLT.out
          have h2 := HLD.out
          rw [Hid, List.length_append, List.length_append, h1, h2]
          simp; omega
        have HV5 : Hid (w5.ownsRow B 3 1 v5 (k + 1) (ints (l.take pl ++ [(k : Int)] ++ l.drop pl))) := by
          have e : 0 + pl + 1 + (k - pl) = k + 1 := by omega
          rw [e] at hv5
          simpa [ints, Hid] using hv5
        have HG5 : Hid (w1.grownBy w5 (some R)) := ⟨hgv5.os.trans (HG4.out.os.trans HG3.out.os), hgv5.tape.trans (HG4.out.tape.trans HG3.out.tape), hgv5.output.trans (HG4.out.output.trans HG3.out.output), by simp at hs3 hs4; omega, fun z hz _ => HW5.out z hz⟩
        have HR5 := Lib.hid (HR1.out.same (HW5.out R HR1.out.lt))
        have HB5 := Lib.hid (HB1.out.keep (fun b o hb => World.cell?_of_block (HW5.out b (by have := HR1.out.lt; omega))))
        have HGG := Lib.hid (grown_trans HG1.out HG5.out)
        have HSH : Hid (∃ g cl, v5 = .slice (some ⟨g, 0, none⟩) (k + 1) cl) := by
          rcases HV5.out.2 with ⟨_, h0⟩ | ⟨g, cap, cur, e, _⟩
          · omega
          · exact ⟨g, cap, e⟩
        clear hv5 hgv5 hatv5
        go_wp2
        go_roundw
        case rel => exact ⟨k + 1, l.take pl ++ [(k : Int)] ++ l.drop pl, q + 1, by omega, by go_num, HSH, HLEN, HV5, HR5, by omega, HB5, HGG⟩
        case measure => simp [intOf]; omega
    · obtain rfl : k = m := by omega
      have HN : Hid (NewR wr u7 l) := Own.newR (B := B) (by unfold Own; rw [hl.out]; exact hown.out) (by rw [hl.out]; exact hm7)
      have HA := Lib.hid ((HV3.out.same (fun z hz => hgr.out.block z (by have := (HV3.out.1.lt z hz).2; omega) (fun e => by have e1 : z = R := Option.some.inj e; have := (HV3.out.1.lt z hz).1; omega))).newR (by omega))
      have HBz : Hid (Below R w wr) := HB3.out.grown hgr.out (by have := HB.out; omega) (by intro z hz; have e : R = z := Option.some.inj hz; omega)
      go_wp2
      go_ret2
      exact ⟨_, _, la, l, rfl, HA.out, HN.out, by rw [HRq.out]; exact HBz.out⟩
end Go.Proofs.Ytamnacgclhaggab
