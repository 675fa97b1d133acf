/- ThreeBack of the model and of the program. -/
import Derived.Test.YthfbllgfcidhkaaGrow
import Derived.Test.YthfbllgfcidhkaaTelT
import Derived.Deep.RegionHeldLaw
import Derived.Deep.AppendLies
namespace Go.Proofs.Ythfbllgfcidhkaa
open Go.ChangeShapes Go.WideShapes Go.ChangeAt Go.RowKit

/-- The three the other way. -/
def turn3 (l : List Int) : List Int := [l.getD 0 0, l.getD 2 0, l.getD 1 0]
def back3 (L : List (List Int)) : List (List Int) := L.map turn3
def backR (n : Int) (L : List (List Int)) : List (List Int) := if Tel n L then back3 L else []
theorem sumTo_small (L : List (List Int)) (h : ∀ l ∈ L, l.length ≤ 7) : ∀ k, k ≤ L.length → sumTo L k ≤ 7 * k
  | 0, _ => by simp [sumTo]
  | k + 1, hk => by
    have h1 := sumTo_small L h k (by omega)
    have h2 := h _ (rowK_mem (show k < L.length by omega))
    simp only [sumTo]; omega
theorem tot_small (L : List (List Int)) (h : ∀ l ∈ L, l.length ≤ 7) (hl : L.length ≤ 1000) : tot L ≤ 1048576 := by
  have := sumTo_small L h L.length (Nat.le_refl _)
  unfold tot; omega
theorem backR_tot (n : Int) (L : List (List Int)) : tot (backR n L) ≤ 1048576 := by
  unfold backR
  split
  · rename_i h
    refine tot_small _ (fun l hl => ?_) (by have := h.2.2.1; simp [back3]; omega)
    simp only [back3, List.mem_map] at hl
    obtain ⟨m, _, rfl⟩ := hl
    simp [turn3]
  · simp [tot, sumTo]
theorem back3_step (L : List (List Int)) (k : Nat) (h : k < L.length) : back3 (L.take k) ++ [turn3 (rowK L k)] = back3 (L.take (k + 1)) := by
  unfold back3
  rw [List.take_succ_eq_append_getElem h, List.map_append]
  simp only [rowK, List.getD, List.getElem?_eq_getElem h, Option.getD_some, List.map_cons, List.map_nil]

set_option maxRecDepth 10000 in
set_option maxHeartbeats 1000000 in
theorem bkS_any (A : Option Addr) (n c H : Nat) (q : Int) (L : List (List Int)) (w : World) (h : RdS w H A n L) (hH : H ≤ w.heap.size) (hn : tot L ≤ 1048576) :
    Calls Try.prog 27 #[.int .i64 q, .slice A n c] w fun e w' => ∃ v, e = .returned (.tuple #[v, .bool (tel q L)]) ∧ (∃ A c, v = .slice A (backR q L).length c ∧ RdS w' w'.heap.size A (backR q L).length (backR q L)) ∧ Below w.heap.size w w' := by
  obtain ⟨i0, hi, hz0, hz1, hz2⟩ := info_parts row_info
  have HL := Lib.hid h.len
  have hnb : n ≤ 1048576 := by have := h.len; unfold tot at hn; omega
  have HC := Lib.hid (fun W (hR : RdS W H A n L) => telS_any A n c H L q W hR hnb)
  go_enter Try.func27, Try.ntmps27
  go_wp2_with fail
  obtain ⟨W0, h0⟩ : ∃ W, W = w.alloc (.cells #[] 27) := ⟨_, rfl⟩
  have hg0 : GrowS W0 w.heap.size (.slice (some ⟨w.heap.size, 0, none⟩) 0 0) [] := by rw [h0]; exact GrowS.empty w (Nat.le_refl _)
  have hb0 : Below w.heap.size w W0 := by rw [h0]; exact (Below.refl _ _).alloc (Nat.le_refl _) _
  have hr0 : RdS W0 H A n L := h.below (hb0.mono hH)
  rw [← h0]
  clear h h0
  generalize hB : w.heap.size = B at *
  have HB := Lib.hid hB
  clear hB
  refine (HC.out W0 hr0).mono ?_
  rintro e W1 ⟨rfl, p, rfl⟩
  by_cases ht : Tel q L
  · have HT := Lib.hid ht
    have HTY := Lib.hid (tel_yes ht).1
    have HR : Hid (backR q L = back3 L) := by rw [backR, if_pos ht]; rfl
    rw [(tel_yes ht).1]
    clear ht
    go_wp2_with fail
    go_loopw [6, 7] (fun v i wr => ∃ k : Nat, k ≤ n ∧ i = .int .i64 k ∧ Hid (GrowS wr B v (back3 (L.take k))) ∧ Hid (RdS wr H A n L) ∧ Below B w wr) (fun _ i _ => n - (intOf i).toNat)
    case atStart => exact ⟨0, Nat.zero_le _, rfl, by simpa [Hid, back3] using hg0.drewN p, hr0.drewN p, below_drewN hb0 p⟩
    case round =>
      obtain ⟨k, hk, rfl, hgs, hrd, hbl⟩ := hrel
      clear hr0 hg0 hb0
      have HBL := Lib.hid hbl
      have hBs : B ≤ wr.heap.size := by rw [← HB.out]; exact hbl.size
      clear hbl
      by_cases hlt : k < n
      · obtain ⟨b, o, rfl, hbB, hcs⟩ := hrd.out.at_ (by omega)
        obtain ⟨Ak, ck, hc, hr, hz, hcm⟩ := hcs k hlt
        have hthr := HT.out.2.2.2 _ (rowK_mem (show k < L.length by rw [HL.out]; exact hlt))
        have hst := Lib.hid (back3_step L k (by rw [HL.out]; exact hlt))
        have hkl : (back3 (L.take k)).length = k := by simp [back3]; have := HL.out; omega
        obtain ⟨x, y, z, e⟩ := of_three hthr.1
        rw [e] at hr hc hz
        have hst' : Hid (back3 (L.take k) ++ [[x, z, y]] = back3 (L.take (k + 1))) := by have := hst.out; rw [e] at this; exact this
        obtain ⟨b', o', rfl, hbH, c0, c1, c2⟩ := rd3 hr
        obtain ⟨xs, hx1, hx2⟩ := hgs.out
        rw [hkl] at hx1
        have HX1 := Lib.hid hx1
        have HX2 := Lib.hid hx2
        have HKL := Lib.hid hkl
        clear hr hthr hst e hz hcm hx1 hx2 hkl hgs
        have hc' : wr.cell? ⟨b, o + k, none⟩ = some (.slice (some ⟨b', o', none⟩) 3 ck) := hc
        have HK := Lib.hid (fun (W : World) (hW : Below B wr W) => (⟨(hW.cell (p := ⟨b, o + k, none⟩) (by simp; omega)).trans hc', (hW.cell (p := ⟨b', o', none⟩) (by simp; omega)).trans c0, (hW.cell (p := ⟨b', o' + 1, none⟩) (by simp; omega)).trans c1, (hW.cell (p := ⟨b', o' + 2, none⟩) (by simp; omega)).trans c2⟩ :
          W.cell? ⟨b, o + k, none⟩ = some (.slice (some ⟨b', o', none⟩) 3 ck) ∧ W.cell? ⟨b', o', none⟩ = some (.int .i64 x) ∧ W.cell? ⟨b', o' + 1, none⟩ = some (.int .i64 y) ∧ W.cell? ⟨b', o' + 2, none⟩ = some (.int .i64 z)))
        clear hcs hc hc' c0 c1 c2
        go_wp2
        go_region_held_law (fun W => W.cell? ⟨b, o + k, none⟩ = some (.slice (some ⟨b', o', none⟩) 3 ck) ∧ W.cell? ⟨b', o', none⟩ = some (.int .i64 x) ∧ W.cell? ⟨b', o' + 1, none⟩ = some (.int .i64 y) ∧ W.cell? ⟨b', o' + 2, none⟩ = some (.int .i64 z))
          (first
            | exact HK.out _ (Below.refl _ _).drew
            | exact HK.out _ ((Below.refl _ _).drew.alloc (by simp; omega) _)
            | exact HK.out _ (((Below.refl _ _).drew.alloc (by simp; omega) _).alloc (by simp; omega) _)
            | exact HK.out _ HB5.out)
          (first
            | (refine step_append1 _ rfl (.tmp 20) (.tmp 40) rfl B ?v k xs ?hs (wr.heap.size + 1) (.slice (some ⟨wr.heap.size, 0, none⟩) 3 3) ?hx ?hown ?hu ?h1 ?h63 ?hB ?nx; (case hs => (simp [Act.eval]; rfl)); (case hx => simp [Act.eval]); (case hown => exact (HX1.out.alloc _).alloc _); (case hu => first | (simp; done) | (go_simp; done)); (case h1 => rfl); (case h63 => omega); (case hB => (simp; omega)); (intro v' w5 hown5 hgr5; have HB5 : Hid (Below B wr w5) := Lib.hid ((((Below.refl _ _).drew.alloc (by simp; omega) _).alloc (by simp; omega) _).grown hgr5.out (by simp; omega) (fun i hi => (HX1.out.lt i hi).1)))))
        have HG5 := Lib.hid (grow_lit HKL.out HX1.out HX2.out hBs [x, z, y] (by simp) _ hown5.out (grown_undrew hgr5.out))
        rw [hst'.out] at HG5
        have HR5 := Lib.hid (hrd.out.below (HB5.out.mono (by omega)))
        have HBL5 := Lib.hid (HBL.out.trans HB5.out)
        clear hown5 hgr5
        go_wp2
        go_roundw
        case rel => exact ⟨k + 1, by omega, by go_num, HG5, HR5, HBL5.out⟩
        case measure => simp [intOf]; omega
      · obtain rfl : k = n := by omega
        have e : L.take k = L := List.take_of_length_le (by rw [HL.out]; omega)
        rw [e] at hgs
        obtain ⟨A', c', e', _⟩ := hgs.out.slice
        subst e'
        go_wp2
        go_ret2
        refine ⟨.slice A' (back3 L).length c', by rw [HTY.out]; rfl, ?_, by rw [HB.out]; exact HBL.out⟩
        rw [HR.out]
        exact ⟨A', c', rfl, hgs.out.rd.2⟩
  · have HR : Hid (backR q L = []) := by rw [backR, if_neg ht]; rfl
    have HTY := Lib.hid (tel_no ht).1
    rw [(tel_no ht).1]
    clear ht
    go_wp2_with fail
    go_ret2
    refine ⟨.slice (some ⟨B, 0, none⟩) 0 0, by rw [HTY.out]; rfl, ?_, by rw [HB.out]; exact below_drewN hb0 p⟩
    rw [HR.out]
    exact ⟨_, _, rfl, RdS.nil⟩

/-- The program's lists of threes. -/
theorem made_rows {w1 : World} {B n : Nat} {L : List (List Int)} {xs : List Value} (hown : w1.ownsRow B 27 1 (.slice (some ⟨B, 0, none⟩) n n) n xs) : Fill w1 B n L 0 := by
  rcases hown.2 with ⟨e, _⟩ | ⟨g, cap, cur, e, _, hg, _, _, hs, _⟩
  · cases e
  · injection e with e1 _ e3
    injection e1 with e1
    injection e1 with e1
    subst e1
    exact Fill.made hg (by rw [hs]; omega)

set_option maxRecDepth 10000 in
theorem tlist_any (x y z : Int) (D : Nat) (w : World) (hD : D ≤ w.heap.size + 1) :
    Calls Try.prog 72 #[.agg (ints [x, y, z]).toArray] w fun e w' => e = .returned (.slice (some ⟨w.heap.size + 1, 0, none⟩) 3 3) ∧ Own w' D (.slice (some ⟨w.heap.size + 1, 0, none⟩) 3 3) [x, y, z] ∧ Below w.heap.size w w' := by
  change Calls Try.prog 72 #[.agg #[.int .i64 x, .int .i64 y, .int .i64 z]] w _
  have ho := World.ownsRow_lit (base := D) (e := 3) (size := 1) (w.alloc (.cells (ints [x, y, z]).toArray 74)) (ints [x, y, z]).toArray 3 (by simp; omega) (by decide) (by simp)
  rw [show (w.alloc (.cells (ints [x, y, z]).toArray 74)).heap.size = w.heap.size + 1 by simp] at ho
  have HO := Lib.hid ho
  clear ho
  go_enter Try.func72, Try.ntmps72
  go_wp2
  go_ret
  exact ⟨by simp, HO.out, ((Below.refl _ _).alloc (Nat.le_refl _) _).alloc (by simp) _⟩

set_option maxRecDepth 10000 in
set_option maxHeartbeats 1000000 in
theorem threeLists_any (v : Value) (C : Nat) (L : List (List Int)) (w : World) (h : RowN w C 74 3 v L) (hn : L.length ≤ 1000) :
    Calls Try.prog 49 #[v] w fun e w' => e = .returned (.slice (some ⟨w.heap.size, 0, none⟩) L.length L.length) ∧
      OwnS w' w.heap.size w'.heap.size (.slice (some ⟨w.heap.size, 0, none⟩) L.length L.length) L ∧ Below w.heap.size w w' := by
  obtain ⟨i0, hi, hz0, hz1, hz2⟩ := info_parts row_info
  obtain ⟨A, c, rfl⟩ := h.slice
  have HH := Lib.hid h
  obtain ⟨n, hnl⟩ : ∃ n, n = L.length := ⟨_, rfl⟩
  rw [← hnl] at hn ⊢
  have HN := Lib.hid hnl
  have HTHR := Lib.hid h.1
  rw [← hnl] at HH
  clear h hnl
  go_enter Try.func49, Try.ntmps49
  go_wp2_with (at_make; refine wpList_make_full _ rfl _ _ 22 rfl w.heap.size 27 i0 (.slice none 0 0) 1 Try.underlying22 hi hz0 hz1 .i64 .i64 _ _ n rfl rfl rfl rfl (by rw [hz2]; omega) (by unfold maxLen; omega) (Nat.le_refl _) ?_)
  intro w1 hown hgrow
  have hb1 : Below w.heap.size w w1 := (Below.refl _ _).grown hgrow (Nat.le_refl _) (by simp)
  have hf1 : Hid (Fill w1 w.heap.size n L 0) := made_rows hown
  have hr1 : Hid (RowN w1 C 74 3 (.slice A n c) L) := HH.out.grown hgrow (by simp)
  have HLT := Lib.hid (fun i hi => (HH.out.lt i hi).2)
  clear hown hgrow
  generalize hB : w.heap.size = B at *
  have HB := Lib.hid hB
  clear hB HH
  go_wp2
  go_loopw [11] (fun i wr => ∃ k : Nat, k ≤ n ∧ i = .int .i64 k ∧ Hid (Fill wr B n L k) ∧ Hid (RowN wr C 74 3 (.slice A n c) L) ∧ Below B w wr) (fun i _ => n - (intOf i).toNat)
  case atStart => exact ⟨0, Nat.zero_le _, rfl, hf1, hr1, hb1⟩
  case round =>
    obtain ⟨k, hk, rfl, hf, hrd, hbl⟩ := hrel
    clear hf1 hr1 hb1
    have HBL := Lib.hid hbl
    have hBw := hf.out.lt
    clear hbl
    by_cases hlt : k < n
    · have hkl : k < L.length := by rw [← HN.out]; exact hlt
      obtain ⟨g, c', e0, _, hgs, _, _, _, _⟩ := hrd.out.elem hkl
      rw [← HN.out] at e0
      injection e0 with e1 _ e3
      subst e3
      subst e1
      have HKL := Lib.hid hkl
      obtain ⟨x, y, z, e⟩ := of_three (HTHR.out _ (rowK_mem hkl))
      have HE := Lib.hid e
      clear e hkl
      have HNT := Lib.hid (Blk.new (t := 74) wr [0, 0, 0])
      have hgB := HLT.out g rfl
      go_wp2_with (first
        | (refine load_elem rfl _ 74 rfl _ rfl Try.underlying74 g n c C k 3 L hrd HKL.out three_size rfl ?nx; rw [HE.out])
        | (refine store_tri rfl _ _ rfl wr.heap.size zero3 [x, y, z] rfl rfl rfl rfl HNT ?_; intro w6 HB6 hg6 hs6; have h6 : Hid (Below wr.heap.size wr w6) := Lib.hid (((Below.refl _ _).alloc (Nat.le_refl _) _).grown hg6 (by simp) (by simp)))
        | (refine load_tri rfl _ rfl wr.heap.size [x, y, z] rfl rfl HB6 ?_)
        | (go_at_call 72; refine (tlist_any x y z (B + 1) _ (by have := h6.out.size; omega)).mono ?_; rintro e w7 ⟨rfl, ho7, hb7⟩; have HO7 := Lib.hid ho7; have h7 : Hid (Below wr.heap.size wr w7) := Lib.hid (h6.out.trans (hb7.mono h6.out.size)); clear ho7 hb7; have hf7 := hf.out.below h7.out (Nat.le_refl _); obtain ⟨old, hcell⟩ := hf7.cell hlt; have hfr := hf7.frozen k; clear hf7))
      go_roundw
      have hz6 : rowK L k = [x, y, z] := HE.out
      have hFs := hf.out.step h7.out (g := w6.heap.size + 1) (m := 3) (by have := h6.out.size; omega) (by rw [hz6]; rfl) (by rw [hz6]; exact HO7.out) hlt
      rw [show w6.heap.size = wr.heap.size + 1 by rw [hs6]; simp] at hFs
      case rel => exact ⟨k + 1, by omega, by go_num, Lib.hid hFs, Lib.hid ((hrd.out.below h7.out (fun i hi => (hrd.out.lt i hi).2)).same fun i hi => Below.heap_setCell _ _ _ _ (by have := HLT.out i hi; simp; omega)), (HBL.out.trans (h7.out.mono (by omega))).setCell (by simp) _⟩
      case measure => simp [intOf]; omega
    · go_wp2
      go_ret
      obtain rfl : k = n := by omega
      rw [HB.out]
      exact ⟨rfl, hf.out.own HN.out.symm (fun j hj => by have := HTHR.out _ (rowK_mem (show j < L.length by rw [← HN.out]; exact hj)); omega), HBL.out⟩
end Go.Proofs.Ythfbllgfcidhkaa
