/- The laws' drawer of a list that goes round: a ring's list, begun at some place. -/
import Derived.Test.YtgjgpnmldlnmgaaDraw7
namespace Go.Proofs.Ytgjgpnmldlnmgaa
open Go.ChangeShapes Go.WideShapes Go.ChangeAt Go.RowKit

theorem slice_headO (W : World) (g o n c m : Nat) (hm : m ≤ c) :
    (Instr.slice 23 (.slice (some ⟨g, o, none⟩) n c) none (some (.int .i64 (m : Int))) none).run Try.prog W = .ok (.slice (some ⟨g, o, none⟩) m c) W := by
  obtain ⟨i, hi, _, hs, _⟩ := info_parts int_info
  have h := run_slice_h (P := Try.prog) W 23 (some ⟨g, o, none⟩) n c (by rw [elem_ints]; exact Try.underlying23) .i64 (m : Int) (by omega) (by omega)
  rw [h, elem_ints, run_sizeOf W hi, Result.andThen_ok]
  simp [sliced, Addr.add]
theorem slice_tailO (W : World) (g o n c m : Nat) (hm : m ≤ n) (_ : n ≤ c) :
    (Instr.slice 23 (.slice (some ⟨g, o, none⟩) n c) (some (.int .i64 (m : Int))) none none).run Try.prog W = .ok (.slice (some (if c = m then ⟨g, o, none⟩ else ⟨g, o + m, none⟩)) (n - m) (c - m)) W := by
  obtain ⟨i, hi, _, hs, _⟩ := info_parts int_info
  have h := run_slice_l (P := Try.prog) W 23 (some ⟨g, o, none⟩) n c (by rw [elem_ints]; exact Try.underlying23) .i64 (m : Int) (by omega) (by omega)
  rw [h, elem_ints, run_sizeOf W hi, Result.andThen_ok, cells_int]
  by_cases e : c = m
  · simp [sliced, e]
  · simp [sliced, e, Addr.add_lit]

set_option maxRecDepth 10000 in
set_option maxHeartbeats 4000000 in
theorem drawRingOf_any (n c H : Nat) (A : Option Addr) (w : World) (hb : Byt w H A n) (hH : H ≤ w.heap.size) (hnc : n ≤ c) (hc : c ≤ 9223372036854775807) :
    Calls Try.prog 23 #[.slice A n c] w fun e w' => ∃ v l, e = .returned v ∧ NewR w' v l ∧ (2 ≤ l.length ∧ l.length ≤ 7) ∧ Below w.heap.size w w' := by
  have HOP := Lib.hid (openS_any n c H A w hb hH hnc hc)
  clear hb
  go_enter Try.func23, Try.ntmps23
  go_wp2_with fail
  refine HOP.out.mono ?_
  rintro e w1 ⟨rfl, ⟨n', hn', h1, h2⟩, hb1⟩
  have HRG := Lib.hid (ring91_any w.heap.size n' c H 0 7 A w1 h1 h2 hH (by omega) hn' (by omega) (by omega))
  have HB1 := Lib.hid hb1
  have HY1 := Lib.hid h2
  have hlt := h1.lt
  generalize hR : w.heap.size = R at *
  have HRq := Lib.hid hR
  clear h1 h2 hb1 HOP hR
  go_wp2_with fail
  refine HRG.out.mono ?_
  rintro e w2 ⟨v, l, q, rfl, hv, ⟨hl, h1, hq⟩, hg⟩
  have HB2 := Lib.hid (below_grown HB1.out hg hlt)
  have HY2 := Lib.hid (HY1.out.grown hg hH)
  obtain ⟨Av, cv, ev, hcv1, hcv2⟩ := hv.2
  subst ev
  have HV2 := Lib.hid hv
  have hlt2 := h1.lt
  obtain ⟨m, hm⟩ : ∃ m, m = l.length := ⟨_, rfl⟩
  have HM := Lib.hid hm
  rw [← hm] at HV2 hl hcv1 hq ⊢
  have HP2 := Lib.hid (pick_any R n' c H q m A w2 h1 HY2.out hH (by omega) hn' (by omega) (by omega))
  clear hv h1 hg HB1 HRG HY1 hm
  by_cases h3 : m < 3
  · have HN := Lib.hid (HV2.out.newR (by rw [← HM.out]; exact hl))
    clear HP2
    go_wp2
    go_ret
    exact ⟨_, l, rfl, HN.out, by rw [← HM.out]; omega, by rw [HRq.out]; exact HB2.out⟩
  go_wp2_with fail
  refine HP2.out.mono ?_
  rintro e w3 ⟨⟨k, hk, rfl⟩, h1, hg, hz3⟩
  have HB3 := Lib.hid (below_grown HB2.out hg hlt2)
  have HV3 := Lib.hid (HV2.out.grown5 hg hlt)
  have hlt3 := h1.lt
  obtain ⟨hml, hrd⟩ := HV3.out.1.rd
  obtain ⟨g, o, e, hgb, hcs⟩ := hrd.at_ (by omega)
  subst e
  have HCS := Lib.hid hcs
  clear h1 hg HB2 HP2 HY2 HV2 hz3 hlt2 hrd hcs
  have hsA := fun W => slice_headO W g o m cv k (by omega)
  obtain ⟨ad, hade⟩ : ∃ ad : Addr, ad = if cv = k then ⟨g, o, none⟩ else ⟨g, o + k, none⟩ := ⟨_, rfl⟩
  have hsB : ∀ W : World, (Instr.slice 23 (.slice (some ⟨g, o, none⟩) m cv) (some (.int .i64 (k : Int))) none none).run Try.prog W = .ok (.slice (some ad) (m - k) (cv - k)) W := fun W => by
    rw [hade]; exact slice_tailO W g o m cv k (by omega) (by omega)
  have had : ad = ⟨g, o + k, none⟩ := by rw [hade, if_neg (by omega)]
  have HLT : Hid ((l.take k).length = k) := by rw [Hid, List.length_take, ← HM.out]; omega
  have HLD : Hid ((l.drop k).length = m - k) := by rw [Hid, List.length_drop, ← HM.out]
  have HTK : Hid (∀ W : World, (∀ z, z < w3.heap.size → W.heap[z]? = w3.heap[z]?) → ∀ j u, (ints (l.take k))[j]? = some u → W.cell? ((⟨g, o, none⟩ : Addr).add j) = some u) := fun W hW j u hu => by
    have hj : j < (l.take k).length := by
      have := (List.getElem?_eq_some_iff.1 hu).1
      simpa using this
    rw [HLT.out] at hj
    rw [Addr.add_lit, World.cell?_of_block (w := w3) (hW g hgb), HCS.out j (by omega)]
    rw [← hu]
    simp [ints, List.getD, hj, show j < l.length by omega]
  have HDP : Hid (∀ W : World, (∀ z, z < w3.heap.size → W.heap[z]? = w3.heap[z]?) → ∀ j u, (ints (l.drop k))[j]? = some u → W.cell? (ad.add j) = some u) := fun W hW j u hu => by
    have hj : j < (l.drop k).length := by
      have := (List.getElem?_eq_some_iff.1 hu).1
      simpa using this
    rw [HLD.out] at hj
    rw [had, Addr.add_lit, World.cell?_of_block (w := w3) (hW g hgb), Nat.add_assoc, HCS.out (k + j) (by omega)]
    rw [← hu]
    simp [ints, List.getD, List.getElem?_drop, show k + j < l.length by omega]
  have HE0 : Hid ((w3.alloc (.cells #[] 3)).drew.ownsRow w3.heap.size 3 1 (.slice (some ⟨w3.heap.size, 0, none⟩) 0 0) 0 []) := Lib.hid (show _ from own_empty w3 _ (Nat.le_refl _))
  have HBL : Hid (∀ W : World, (∀ z, z < w3.heap.size → W.heap[z]? = w3.heap[z]?) → W.os = w3.os ∧ W.tape = w3.tape ∧ W.output = w3.output → w3.heap.size ≤ W.heap.size → Below R w W) := fun W hW h hs => ⟨h.1.trans HB3.out.os, h.2.1.trans HB3.out.tape, h.2.2.trans HB3.out.output, Nat.le_trans HB3.out.size hs, fun z hz => (hW z (by omega)).trans (HB3.out.block z hz)⟩
  clear had hade HCS HB3 HV3 hgb hml
  go_wp2
  go_region_law (first
    | (refine step_append_at _ rfl (.tmp 18) (.tmp 21) rfl w3.heap.size _ 0 [] (by simp [Act.eval]) HE0.out ad (m - k) (cv - k) (l.drop k) (by simp [Act.eval]) HLD.out (HDP.out _ (fun z hz => Below.heap_alloc _ _ _ hz)) (by omega) (by simp) ?_; intro v4 w4 hv4 hgv4 hatv4; have HV4 := Lib.hid hv4; have hs4 := hgv4.size; have HW4 := Lib.hid (fun z (hz : z < w3.heap.size) => (hgv4.block z (by simp; omega) (by simp [Value.ownBlock]; omega)).trans (Below.heap_alloc w3 _ z hz)); have HK4 := Lib.hid (own_up w3 hatv4); have HG4 := Lib.hid hgv4; clear hv4 hgv4 hatv4)
    | (refine step_append_at _ rfl (.tmp 22) (.tmp 25) rfl w3.heap.size v4 (0 + (m - k)) ([] ++ ints (l.drop k)) (by simp [Act.eval]) HV4.out ⟨g, o, none⟩ k cv (l.take k) (by simp [Act.eval]) HLT.out (HTK.out _ HW4.out) (by omega) (by simp at hs4 ⊢; omega) ?_; intro v5 w5 hv5 hgv5 hatv5))
  all_goals
    have hs5 := hgv5.size
    have HW5 := Lib.hid (fun z (hz : z < w3.heap.size) => (hgv5.block z (by simp at hs4; omega) (fun e => by have := HK4.out z e.symm; omega)).trans (HW4.out z hz))
    have HLEN : Hid ((l.drop k ++ l.take k).length = m) := by
      have h1 := HLT.out
      have h2 := HLD.out
      rw [Hid, List.length_append, h1, h2]
      omega
    have HV5 : Hid (Own w5 w3.heap.size v5 (l.drop k ++ l.take k)) := by
      have e : 0 + (m - k) + k = m := by omega
      rw [e] at hv5
      unfold Own
      rw [HLEN.out]
      simpa [ints, Hid] using hv5
    have HB5 := Lib.hid (HBL.out w5 HW5.out ⟨hgv5.os.trans HG4.out.os, hgv5.tape.trans HG4.out.tape, hgv5.output.trans HG4.out.output⟩ (by simp at hs4; omega))
    have HN := Lib.hid (HV5.out.newR (by rw [HLEN.out]; exact hl))
    clear hv5 hgv5 hatv5
    go_wp2
    go_ret
    exact ⟨_, _, rfl, HN.out, by rw [HLEN.out]; omega, by rw [HRq.out]; exact HB5.out⟩
end Go.Proofs.Ytgjgpnmldlnmgaa
