/- The laws' drawer of rings: its list has each point once, and 0 first. -/
import Derived.Test.YtgojojoanhilnabDoorDraw2
namespace Go.Proofs.YtgojojoanhilnabDoor
open Go.ChangeShapes Go.WideShapes Go.ChangeAt Go.RowKit

def OfL (k : Nat) (l : List Int) : Prop := (∀ j : Nat, j < k → (j : Int) ∈ l) ∧ l.getD 0 0 = 0
theorem ofL_one : OfL 1 [0] := ⟨fun j hj => by obtain rfl : j = 0 := by omega
                                               simp, rfl⟩
theorem ofL_step {k pl : Nat} {l : List Int} (_ : l.length = k) (h : OfL k l) (h1 : 1 ≤ pl) (_ : pl ≤ k) : OfL (k + 1) (l.take pl ++ [(k : Int)] ++ l.drop pl) := by
  refine ⟨fun j hj => ?_, ?_⟩
  · rcases Nat.lt_succ_iff_lt_or_eq.1 hj with hj | rfl
    · have := h.1 j hj
      rw [← List.take_append_drop pl l, List.mem_append] at this
      simp only [List.mem_append, List.mem_singleton]
      rcases this with h2 | h2
      · exact .inl (.inl h2)
      · exact .inr h2
    · simp
  · have h0 := h.2
    match l, pl, h1 with
    | [], pl + 1, _ =>
      have := h.1 0 (by rename_i hl _ _; simp at hl; omega)
      simp at this
    | x :: l, pl + 1, _ => simpa using h0
theorem ofL_ring {k : Nat} {l : List Int} (hl : l.length = k) (h : OfL k l) (h3 : 3 ≤ k) (h7 : k ≤ 7) : Ring l := by
  have := nodup_of_all k l hl h.1
  exact ⟨⟨by omega, by omega, fun x hx => by rw [hl]; exact this.2 x hx, this.1⟩, h.2⟩

set_option maxRecDepth 10000 in
set_option maxHeartbeats 2000000 in
theorem of91t_any (R n c H p m : Nat) (A : Option Addr) (w : World) (hR : RdAt w R A n c p) (hb : Byt w H A n) (hH : H ≤ R) (hp : p ≤ 90000) (hn : n ≤ 2000) (hm1 : 1 ≤ m) (hm : m ≤ 7) :
    Calls Tryd.prog 37 #[.pointer (some ⟨R, 0, none⟩), .int .i64 (m : Int)] w fun e w' => ∃ v l q, e = .returned v ∧ Own w' w.heap.size v l ∧ (l.length = m ∧ OfL m l ∧ RdAt w' R A n c q ∧ q ≤ p + 10) ∧ w.grownBy w' (some R) := by
  have HP := Lib.hid (fun V q k (h1 : RdAt V R A n c q) (h2 : Byt V H A n) (h3 : q ≤ 100000) (h4 : 1 ≤ k) (h5 : k ≤ 1000) => pick_any R n c H q k A V h1 h2 hH h3 hn h4 h5)
  have hRw := hR.lt
  have HO0 : Hid ((w.alloc (.cells #[.int .i64 0] 3)).ownsRow w.heap.size 3 1 (.slice (some ⟨w.heap.size, 0, none⟩) 1 1) 1 (ints [0])) := Lib.hid (World.ownsRow_lit w #[.int .i64 0] 1 (Nat.le_refl _) (by unfold maxLen; omega) rfl)
  have HG0 : Hid (w.grownBy (w.alloc (.cells #[.int .i64 0] 3)) (some R)) := World.grownBy_alloc w _ _
  have HR0 : Hid (RdAt (w.alloc (.cells #[.int .i64 0] 3)) R A n c p) := hR.same (Below.heap_alloc w _ R hRw)
  have HB0 := Lib.hid (hb.grown HG0.out hH)
  clear hR hb
  go_enter Tryd.func37, Tryd.ntmps37
  go_wp2
  generalize w.alloc (.cells #[.int .i64 0] 3) = W0 at *
  generalize hB : w.heap.size = B at *
  have HB := Lib.hid hB
  clear hB
  go_loopw [5, 6] (fun v i wr => ∃ (k : Nat) (l : List Int) (q : Nat), 1 ≤ k ∧ k ≤ m ∧ i = .int .i64 k ∧ Hid (l.length = k) ∧ Hid (OfL k l) ∧ Hid (wr.ownsRow B 3 1 v k (ints l)) ∧ Hid (RdAt wr R A n c q) ∧ q ≤ p + k ∧ Hid (Byt wr H A n) ∧ Hid (w.grownBy wr (some R))) (fun _ i _ => m - (intOf i).toNat)
  case atStart => exact ⟨1, [0], p, Nat.le_refl _, hm1, rfl, Lib.hid rfl, Lib.hid ofL_one, HO0, HR0, by omega, HB0, HG0⟩
  case round =>
    obtain ⟨k, l, q, hk1, hk, rfl, hl, hof, hown, hrd, hq, hby, hgr⟩ := hrel
    clear HO0 HR0 HB0 HG0
    by_cases hlt : k < m
    · obtain ⟨g, cl, cur, e, hgB, hgc, hkc, hcm⟩ : ∃ g cl cur, u5 = .slice (some ⟨g, 0, none⟩) k cl ∧ B ≤ g ∧ wr.heap[g]? = some (.cells cur 3 (0, 0)) ∧ k ≤ cl ∧ cl ≤ maxLen := by
        rcases hown.out.2 with ⟨_, h0⟩ | ⟨g, cap, cur, e, h1, h2, h3, h4, _⟩
        · omega
        · exact ⟨g, cap, cur, e, h1, h2, h3, h4⟩
      subst e
      have hgs := (Array.getElem?_eq_some_iff.1 hgc).1
      clear hgc
      go_wp2_with fail
      refine (HP.out wr q k hrd.out hby.out (by omega) hk1 (by omega)).mono ?_
      rintro e w1 ⟨⟨v1, hv1, rfl⟩, h1, h2, h3⟩
      have HR1 := Lib.hid h1
      have HB1 := Lib.hid (hby.out.grown h2 hH)
      have HG1 := Lib.hid (grown_trans hgr.out h2)
      have HS1 := Lib.hid h3
      have hBR : B ≤ w1.heap.size := by rw [h3]; omega
      have hg1 : g < w1.heap.size := by rw [h3]; omega
      have hcells : Hid (∀ j u, (ints l)[j]? = some u → w1.cell? ⟨g, j, none⟩ = some u) := by
        intro j u hu
        rcases hown.out.2 with ⟨e, _⟩ | ⟨g', cap, cur, e, _, hgg, _, _, _, ht⟩
        · cases e
        · injection e with e1 _ _
          injection e1 with e1
          injection e1 with e1
          subst e1
          have hb1 : w1.heap[g]? = wr.heap[g]? := h2.block g hgs (fun e => by have e1 : g = R := Option.some.inj e; omega)
          rw [cell_of_row w1 g j _ _ (0, 0) (hb1.trans hgg)]
          rw [← ht, List.getElem?_take] at hu
          split at hu
          · rw [← Array.getElem?_toList]; exact hu
          · cases hu
      clear h1 h2 h3 hrd hby hgr hown
      obtain ⟨pl, hpl⟩ : ∃ pl, pl = v1 + 1 := ⟨_, rfl⟩
      have hw1 : IntKind.i64.wrap (1 + (v1 : Int)) = (pl : Int) := by rw [IntWalk.i64_in _ (by omega)]; omega
      have hplk : pl ≤ k := by omega
      have hpl1 : 1 ≤ pl := by omega
      clear hpl hv1
      have hsA := fun W => slice_head W g k cl pl (by omega)
      obtain ⟨ad, hade⟩ : ∃ ad : Addr, ad = if cl = pl then ⟨g, 0, none⟩ else ⟨g, pl, none⟩ := ⟨_, rfl⟩
      have hsB : ∀ W : World, (Instr.slice 26 (.slice (some ⟨g, 0, none⟩) k cl) (some (.int .i64 (pl : Int))) none none).run Tryd.prog W = .ok (.slice (some ad) (k - pl) (cl - pl)) W := fun W => by
        rw [hade]; exact slice_tail W g k cl pl (by omega) (by omega)
      have had : pl < k → ad = ⟨g, pl, none⟩ := fun h => by rw [hade, if_neg (by omega)]
      clear hade
      have HTK : Hid (∀ W : World, (∀ z, z < w1.heap.size → W.heap[z]? = w1.heap[z]?) → ∀ j u, (ints (l.take pl))[j]? = some u → W.cell? ((⟨g, 0, none⟩ : Addr).add j) = some u) := fun W hW j u hu => by
        rw [Addr.add_lit, Nat.zero_add, World.cell?_of_block (w := w1) (hW g hg1)]
        refine hcells.out j u ?_
        simp only [ints, List.map_take, List.getElem?_take] at hu
        split at hu
        · exact hu
        · cases hu
      have HDP : Hid (∀ W : World, (∀ z, z < w1.heap.size → W.heap[z]? = w1.heap[z]?) → ∀ j u, (ints (l.drop pl))[j]? = some u → W.cell? (ad.add j) = some u) := fun W hW j u hu => by
        have hj : j < (l.drop pl).length := by
          have := (List.getElem?_eq_some_iff.1 hu).1
          simpa using this
        rw [List.length_drop, hl.out] at hj
        rw [had (by omega), Addr.add_lit, World.cell?_of_block (w := w1) (hW g hg1)]
        refine hcells.out (pl + j) u ?_
        simp only [ints, List.map_drop, List.getElem?_drop] at hu
        exact hu
      have HLT : Hid ((l.take pl).length = pl) := by rw [Hid, List.length_take, hl.out]; omega
      have HLD : Hid ((l.drop pl).length = k - pl) := by rw [Hid, List.length_drop, hl.out]
      have HE0 : Hid ((w1.alloc (.cells #[] 3)).drew.ownsRow B 3 1 (.slice (some ⟨w1.heap.size, 0, none⟩) 0 0) 0 []) := Lib.hid (show _ from own_empty w1 _ hBR)
      have HE1 : Hid ((w1.alloc (.cells #[] 3)).ownsRow B 3 1 (.slice (some ⟨w1.heap.size, 0, none⟩) 0 0) 0 []) := Lib.hid (own_empty w1 _ hBR)
      have HE2 : Hid (((w1.alloc (.cells #[.int .i64 (k : Int)] 3)).alloc (.cells #[] 3)).ownsRow B 3 1 (.slice (some ⟨w1.heap.size + 1, 0, none⟩) 0 0) 0 []) := by
        have h := own_empty (w1.alloc (.cells #[.int .i64 (k : Int)] 3)) B (by simp; omega)
        rw [show (w1.alloc (.cells #[.int .i64 (k : Int)] 3)).heap.size = w1.heap.size + 1 by simp] at h
        exact h
      clear hcells had
      go_wp2
      go_region_law (first
        | (refine step_append_at _ rfl (.tmp 19) (.tmp 22) rfl B _ 0 [] (by simp [Act.eval]) HE0.out ⟨g, 0, none⟩ pl cl (l.take pl) (by simp [Act.eval]) HLT.out (HTK.out _ (fun z hz => Below.heap_alloc _ _ _ hz)) (by omega) (by simp; omega) ?_; intro v3 w3 hv3 hgv3 hatv3; have HV3 := Lib.hid hv3; have hs3 := hgv3.size; have HW3 := Lib.hid (fun z (hz : z < w1.heap.size) => (hgv3.block z (by simp; omega) (by simp [Value.ownBlock]; omega)).trans (Below.heap_alloc w1 _ z hz)); have HK3 := Lib.hid (own_up w1 hatv3); have HG3 := Lib.hid hgv3; clear hv3 hgv3 hatv3)
        | (refine step_append_at _ rfl (.tmp 19) (.tmp 22) rfl B _ 0 [] (by simp [Act.eval]) (HE1.out.alloc _).drew ⟨g, 0, none⟩ pl cl (l.take pl) (by simp [Act.eval]) HLT.out (HTK.out _ (fun z hz => (Below.heap_alloc _ _ _ (by simp; omega)).trans (Below.heap_alloc _ _ _ hz))) (by omega) (by simp; omega) ?_; intro v3 w3 hv3 hgv3 hatv3; have HV3 := Lib.hid hv3; have hs3 := hgv3.size; have HW3 := Lib.hid (fun z (hz : z < w1.heap.size) => (hgv3.block z (by simp; omega) (by simp [Value.ownBlock]; omega)).trans ((Below.heap_alloc _ _ z (by simp; omega)).trans (Below.heap_alloc w1 _ z hz))); have HK3 := Lib.hid (own_up3 w1 hatv3); have HC3 := Lib.hid (two_cell w1 k hgv3); have HG3 := Lib.hid hgv3; clear hv3 hgv3 hatv3)
        | (refine step_append_at _ rfl (.tmp 19) (.tmp 22) rfl B _ 0 [] (by simp [Act.eval]) HE2.out.drew ⟨g, 0, none⟩ pl cl (l.take pl) (by simp [Act.eval]) HLT.out (HTK.out _ (fun z hz => (Below.heap_alloc _ _ _ (by simp; omega)).trans (Below.heap_alloc _ _ _ hz))) (by omega) (by simp; omega) ?_; intro v3 w3 hv3 hgv3 hatv3; have HV3 := Lib.hid hv3; have hs3 := hgv3.size; have HW3 := Lib.hid (fun z (hz : z < w1.heap.size) => (hgv3.block z (by simp; omega) (by simp [Value.ownBlock]; omega)).trans ((Below.heap_alloc _ _ z (by simp; omega)).trans (Below.heap_alloc w1 _ z hz))); have HK3 := Lib.hid (own_up4 w1 hatv3); have HC3 := Lib.hid (two_cell2 w1 k hgv3); have HG3 := Lib.hid hgv3; clear hv3 hgv3 hatv3)
        | (refine step_append_at _ rfl (.tmp 23) (.tmp 25) rfl B v3 (0 + pl) ([] ++ ints (l.take pl)) (by simp [Act.eval]) (HV3.out.alloc _) ⟨w3.heap.size, 0, none⟩ 1 1 [(k : Int)] (by simp [Act.eval]) rfl (one_cell w3 _ _) (by omega) (by simp at hs3 ⊢; omega) ?_; intro v4 w4 hv4 hgv4 hatv4; have HV4 := Lib.hid hv4; have hs4 := hgv4.size; have HW4 := Lib.hid (fun z (hz : z < w1.heap.size) => (hgv4.block z (by simp at hs3 ⊢; omega) (fun e => by have := HK3.out z e.symm; omega)).trans ((Below.heap_alloc w3 _ z (by simp at hs3; omega)).trans (HW3.out z hz))); have HK4 := Lib.hid (own_up2 HK3.out hatv4 (by simp at hs3 ⊢; omega)); have HG4 := Lib.hid hgv4; clear hv4 hgv4 hatv4)
        | (refine step_append_at _ rfl (.tmp 23) (.tmp 25) rfl B v3 (0 + pl) ([] ++ ints (l.take pl)) (by simp [Act.eval]) HV3.out ⟨w1.heap.size + 1, 0, none⟩ 1 1 [(k : Int)] (by simp [Act.eval]) rfl HC3.out (by omega) (by simp at hs3 ⊢; omega) ?_; intro v4 w4 hv4 hgv4 hatv4; have HV4 := Lib.hid hv4; have hs4 := hgv4.size; have HW4 := Lib.hid (fun z (hz : z < w1.heap.size) => (hgv4.block z (by simp at hs3 ⊢; omega) (fun e => by have := HK3.out z e.symm; omega)).trans (HW3.out z hz)); have HK4 := Lib.hid (own_up2 HK3.out hatv4 (by simp at hs3 ⊢; omega)); have HG4 := Lib.hid hgv4; clear hv4 hgv4 hatv4)
        | (refine step_append_at _ rfl (.tmp 23) (.tmp 25) rfl B v3 (0 + pl) ([] ++ ints (l.take pl)) (by simp [Act.eval]) HV3.out ⟨w1.heap.size, 0, none⟩ 1 1 [(k : Int)] (by simp [Act.eval]) rfl HC3.out (by omega) (by simp at hs3 ⊢; omega) ?_; intro v4 w4 hv4 hgv4 hatv4; have HV4 := Lib.hid hv4; have hs4 := hgv4.size; have HW4 := Lib.hid (fun z (hz : z < w1.heap.size) => (hgv4.block z (by simp at hs3 ⊢; omega) (fun e => by have := HK3.out z e.symm; omega)).trans (HW3.out z hz)); have HK4 := Lib.hid (own_up2 HK3.out hatv4 (by simp at hs3 ⊢; omega)); have HG4 := Lib.hid hgv4; clear hv4 hgv4 hatv4)
        | (refine step_append_at _ rfl (.tmp 26) (.tmp 29) rfl B v4 (0 + pl + 1) ([] ++ ints (l.take pl) ++ ints [(k : Int)]) (by simp [Act.eval]) HV4.out ad (k - pl) (cl - pl) (l.drop pl) (by simp [Act.eval]) HLD.out (HDP.out _ HW4.out) (by omega) (by simp at hs3 hs4; omega) ?_; intro v5 w5 hv5 hgv5 hatv5))
      all_goals
        have hs5 := hgv5.size
        have HW5 := Lib.hid (fun z (hz : z < w1.heap.size) => (hgv5.block z (by simp at hs3 hs4; omega) (fun e => by have := HK4.out z e.symm; omega)).trans (HW4.out z hz))
        have HLEN : Hid ((l.take pl ++ [(k : Int)] ++ l.drop pl).length = k + 1) := by
          have h1 := HLT.out
          have h2 := HLD.out
          rw [Hid, List.length_append, List.length_append, h1, h2]
          simp; omega
        have HV5 : Hid (w5.ownsRow B 3 1 v5 (k + 1) (ints (l.take pl ++ [(k : Int)] ++ l.drop pl))) := by
          have e : 0 + pl + 1 + (k - pl) = k + 1 := by omega
          rw [e] at hv5
          simpa [ints, Hid] using hv5
        have HG5 : Hid (w1.grownBy w5 (some R)) := ⟨hgv5.os.trans (HG4.out.os.trans HG3.out.os), hgv5.tape.trans (HG4.out.tape.trans HG3.out.tape), hgv5.output.trans (HG4.out.output.trans HG3.out.output), by simp at hs3 hs4; omega, fun z hz _ => HW5.out z hz⟩
        have HR5 := Lib.hid (HR1.out.same (HW5.out R HR1.out.lt))
        have HB5 := Lib.hid (HB1.out.keep (fun b o hb => World.cell?_of_block (HW5.out b (by have := HR1.out.lt; omega))))
        have HGG := Lib.hid (grown_trans HG1.out HG5.out)
        have HOF := Lib.hid (ofL_step hl.out hof.out hpl1 hplk)
        clear hv5 hgv5 hatv5
        go_wp2
        go_roundw
        case rel => exact ⟨k + 1, l.take pl ++ [(k : Int)] ++ l.drop pl, q + 1, by omega, by omega, by go_num, HLEN, HOF, HV5, HR5, by omega, HB5, HGG⟩
        case measure => simp [intOf]; omega
    · obtain rfl : k = m := by omega
      go_wp2
      go_ret
      exact ⟨u5, l, q, rfl, by rw [HB.out]; unfold Own; rw [hl.out]; exact hown.out, ⟨hl.out, hof.out, hrd.out, by omega⟩, hgr.out⟩
end Go.Proofs.YtgojojoanhilnabDoor
