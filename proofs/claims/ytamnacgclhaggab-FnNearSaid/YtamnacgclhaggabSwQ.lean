/- SwapNear of the model. -/
import Derived.Test.YtamnacgclhaggabSwP
import Derived.Test.YtamnacgclhaggabPR
import Derived.Test.YtamnacgclhaggabGrX
namespace Go.Proofs.Ytamnacgclhaggab
open Go.ChangeShapes Go.WideShapes Go.ChangeAt Go.RowKit

/-- Block g holds N bools: f 0, f 1 .. -/
def Bl (w : World) (g N : Nat) (f : Nat → Bool) : Prop := w.heap[g]? = some (.cells ((List.range N).map fun k => Value.bool (f k)).toArray 4 (0, 0))
theorem Bl.lt {w : World} {g N : Nat} {f : Nat → Bool} (h : Bl w g N f) : g < w.heap.size := (Array.getElem?_eq_some_iff.1 h).1
theorem Bl.below {D : Nat} {w w' : World} {g N : Nat} {f : Nat → Bool} (h : Bl w g N f) (hb : Below D w w') (hD : g < D) : Bl w' g N f := (hb.block g hD).trans h
theorem Bl.grown {w w' : World} {g N : Nat} {f : Nat → Bool} {row : Option Nat} (h : Bl w g N f) (hg : w.grownBy w' row) (hne : some g ≠ row) : Bl w' g N f := (hg.block g h.lt hne).trans h
theorem Bl.cell {w : World} {g N : Nat} {f : Nat → Bool} (h : Bl w g N f) {k : Nat} (hk : k < N) : w.cell? ⟨g, k, none⟩ = some (.bool (f k)) := by
  rw [cell_of_row w g _ _ _ (0, 0) h, List.getElem?_toArray, List.getElem?_map, List.getElem?_range hk]
  rfl
theorem Bl.frozen {w : World} {g N : Nat} {f : Nat → Bool} (h : Bl w g N f) (i : Nat) : w.frozen? ⟨g, i, none⟩ = false := frozen_of_row w g i _ _ h
theorem Bl.set {w : World} {g N : Nat} {f : Nat → Bool} (h : Bl w g N f) {k : Nat} (_ : k < N) : Bl (w.setCell ⟨g, k, none⟩ (.bool true)) g N (fun j => decide (j = k) || f j) := by
  have hs : (w.setCell ⟨g, k, none⟩ (.bool true)).heap[g]? = some (.cells (((List.range N).map fun k => Value.bool (f k)).set k (.bool true)).toArray 4 (0, 0)) := by
    rw [← List.setIfInBounds_toArray]
    simp [World.setCell, Array.getElem?_modify, show w.heap[g]? = _ from h]
  unfold Bl
  rw [hs]
  congr 3
  apply List.ext_getElem (by simp)
  intro i h1 h2
  rw [List.getElem_set]
  by_cases e : k = i
  · subst e; simp
  · rw [if_neg e]; simp [show ¬ i = k by omega]
theorem Bl.congr {w : World} {g N : Nat} {f f' : Nat → Bool} (h : Bl w g N f) (he : ∀ k, f k = f' k) : Bl w g N f' := by
  have : f = f' := funext he
  rw [← this]; exact h
theorem Bl.made {w : World} {D g N : Nat} (h : w.ownsRow D 4 1 (.slice (some ⟨g, 0, none⟩) N N) N (madeCells #[Value.bool false] N).toList) : Bl w g N (fun _ => false) := by
  rcases h.2 with ⟨e, _⟩ | ⟨g', cap, cur, e, hB, hg, hc, hm, hs, ht⟩
  · cases e
  · injection e with e1 e2 e3
    injection e1 with e1
    injection e1 with e1
    subst e1; subst e3
    have hcur : cur.toList = List.replicate N (.bool false) := by
      rw [toList_madeCells_one] at ht
      rw [← ht, List.take_of_length_le (by simp [hs])]
    unfold Bl
    rw [hg]
    have : cur = ((List.range N).map fun k => Value.bool false).toArray := by
      rw [List.map_const', List.length_range, ← hcur]
    rw [this]
theorem Bl.not_rows {w : World} {g N : Nat} {f : Nat → Bool} (h : Bl w g N f) {B n : Nat} {v : Value} {xs : List Value} (ho : w.ownsRow B 23 1 v n xs) : v.ownBlock ≠ some g := by
  intro e
  rcases ho.2 with ⟨h0, _⟩ | ⟨g', cap, cur, hv, _, hh, _⟩
  · rw [h0] at e; cases e
  · rw [hv] at e
    have e' : g' = g := Option.some.inj e
    subst e'
    unfold Bl at h
    rw [h] at hh
    injection hh with hh
    injection hh with _ hh _
    exact absurd hh (by decide)
theorem bool_info5 : (Try.prog.info? 4).map (fun i => (i.zero, i.size, i.bytes)) = some (some (.bool false), 1, 1) := by kernel_rfl

def nearTo (l : List Int) (k : Nat) : List (List Int) := ((List.range k).filter fun k : Nat => decide ((k : Int) ∈ numsL l)).map fun k : Nat => byL l.length (k : Int)
theorem nearTo_full (l : List Int) : nearTo l (facM l.length) = nearL l := by
  unfold nearTo nearL nearK
  rw [List.map_map]
  rfl
theorem nearTo_yes (l : List Int) (k : Nat) (h : (k : Int) ∈ numsL l) : nearTo l (k + 1) = nearTo l k ++ [byL l.length (k : Int)] := by
  unfold nearTo
  rw [List.range_succ, List.filter_append, List.map_append]
  simp [h]
theorem nearTo_no (l : List Int) (k : Nat) (h : ¬ (k : Int) ∈ numsL l) : nearTo l (k + 1) = nearTo l k := by
  unfold nearTo
  rw [List.range_succ, List.filter_append, List.map_append]
  simp [h]
theorem nearTo_len (l : List Int) (k : Nat) : (nearTo l k).length ≤ k := by
  unfold nearTo
  rw [List.length_map]
  have := List.length_filter_le (fun k : Nat => decide ((k : Int) ∈ numsL l)) (List.range k)
  simpa using this
theorem nums_take (l : List Int) (k : Nat) (hk : k < l.length) (j : Nat) : decide ((j : Int) ∈ (numsL l).take (k + 1)) = (decide (j = (numP (swapL l (k : Int)) l.length).toNat ∧ 0 ≤ numP (swapL l (k : Int)) l.length) || decide ((j : Int) ∈ (numsL l).take k)) := by
  rw [List.take_succ_eq_append_getElem (by simpa using hk), Bool.eq_iff_iff]
  have e : (numsL l)[k]'(by simpa using hk) = numP (swapL l (k : Int)) l.length := by simp [numsL]
  rw [e]
  simp only [List.mem_append, List.mem_singleton, decide_eq_true_eq, Bool.or_eq_true]
  constructor
  · rintro (h | h)
    · exact .inr h
    · exact .inl ⟨by omega, by omega⟩
  · rintro (⟨h1, h2⟩ | h)
    · exact .inr (by omega)
    · exact .inl h

def snR (l : List Int) : List (List Int) := if Ring l then nearL l else []

set_option maxRecDepth 10000 in
set_option maxHeartbeats 2000000 in
theorem snS_any (A : Option Addr) (n c H : Nat) (l : List Int) (w : World) (h : Rd w H A n l) (hH : H ≤ w.heap.size) (hn : n ≤ 1048576) :
    Calls Try.prog 39 #[.slice A n c] w fun e w' => ∃ v, e = .returned (.tuple #[v, .bool (ringB l)]) ∧ (∃ A c, v = .slice A (snR l).length c ∧ RdS w' w'.heap.size A (snR l).length (snR l)) ∧ Below w.heap.size w w' := by
  have hg0 : GrowS (w.alloc (.cells #[] 23)) w.heap.size (.slice (some ⟨w.heap.size, 0, none⟩) 0 0) [] := GrowS.empty w (Nat.le_refl _)
  have hb0 : Below w.heap.size w (w.alloc (.cells #[] 23)) := (Below.refl _ _).alloc (Nat.le_refl _) _
  have hr0 := h.below (hb0.mono hH)
  have HIN := Lib.hid (ringS_any A n c H l _ hr0 hn)
  have HL := Lib.hid h.len
  by_cases hr : Ring l
  rotate_left
  · rw [snR, if_neg hr, ring_no hr]
    rw [ring_no hr] at HIN
    have HRD := Lib.hid hg0.rd
    have HB0 := Lib.hid hb0
    clear hr h hr0 hg0 hb0
    generalize hW : w.alloc (.cells #[] 23) = W0 at *
    have HW := Lib.hid hW
    clear hW
    go_enter Try.func39, Try.ntmps39
    go_wp2_with fail
    rw [HW.out]
    refine HIN.out.mono ?_
    rintro e w' ⟨rfl, rfl⟩
    go_wp2
    go_ret2
    exact ⟨_, rfl, ⟨_, _, rfl, HRD.out.2⟩, HB0.out⟩
  obtain ⟨i0, hi, hz0, hz1, hz2⟩ := info_parts row_info
  obtain ⟨i1, hi1, hy0, hy1, hy2⟩ := info_parts bool_info5
  have h3 := hr.1.1
  have h7 := hr.1.2.1
  rw [HL.out] at h3 h7
  obtain ⟨hf1, hf2, hf3, hf4⟩ := facM_eq7 n h3 h7
  rw [snR, if_pos hr, ring_yes hr, ← nearTo_full, HL.out]
  rw [ring_yes hr] at HIN
  obtain ⟨N, hN⟩ : ∃ N, N = facM n := ⟨_, rfl⟩
  rw [← hN] at hf1 hf2 ⊢
  have hfk : ∀ k : Nat, k < N → (k : Int) < facN (n - 1) := fun k hk => by rw [← hf1]; omega
  have HFACT := Lib.hid (fun W => facS_nat (n - 1) ((n : Int) - 1) W (by omega) (by omega))
  rw [← hf1] at HFACT
  have HBY := Lib.hid (fun k (hk : k < N) W => byS_any n (k : Int) W h3 h7 (by omega) (hfk k hk))
  have HM : ∀ k : Nat, k < n → (k : Int) ∈ l := fun k hk => hr.1.has (by omega) (by have := HL.out; omega)
  have HAT := Lib.hid (fun (k : Nat) (hk : k < n) W (hR : Rd W H A n l) (hW : H ≤ W.heap.size) => l5At_any A n c H l (k : Int) W hR hW hr.1 (HM k hk))
  have HNU := Lib.hid (fun (k : Nat) (hk : k < n) W A' c' H' (hR : Rd W H' A' n (swapL l (k : Int))) => numS_any A' n c' H' (swapL l (k : Int)) W hR (by omega) h7 (swapL_ring hr.1 (HM k hk)))
  have HBD := Lib.hid (fun (k : Nat) (hk : k < n) => (show 0 ≤ numP (swapL l (k : Int)) n ∧ numP (swapL l (k : Int)) n < (N : Int) by
    have := num_lt (swapL_ring hr.1 (HM k hk))
    rw [swapL_length, HL.out, ← hf1] at this
    exact this))
  have HTK := Lib.hid (fun (k : Nat) (hk : k < n) j => nums_take l k (by rw [HL.out]; exact hk) j)
  have HSL := Lib.hid (fun (k : Nat) => (swapL_length l (k : Int)).trans HL.out)
  have HYES := Lib.hid (nearTo_yes l)
  have HNO := Lib.hid (nearTo_no l)
  have HLEN := Lib.hid (nearTo_len l)
  have HBL := Lib.hid (fun k : Nat => byL_length n (k : Int))
  rw [HL.out] at HYES HTK
  have HALL : Hid ((numsL l).take n = numsL l) := List.take_of_length_le (by rw [numsL_length, HL.out]; exact Nat.le_refl _)
  have HT0 : Hid (nearTo l 0 = []) := rfl
  have HG0 := Lib.hid hg0
  have HB0 := Lib.hid hb0
  have HR0 := Lib.hid hr0
  clear hN hf1 hf3 hf4 hfk HM hr hg0 hb0 hr0 h
  generalize numsL l = NS at *
  generalize nearTo l = T at *
  go_enter Try.func39, Try.ntmps39
  go_wp2_with fail
  refine HIN.out.mono ?_
  rintro e w' ⟨rfl, rfl⟩
  go_wp2_with fail
  refine (HFACT.out _).mono ?_
  rintro e w' ⟨rfl, rfl⟩
  generalize w.alloc (.cells #[] 23) = W0 at *
  go_wp2_with (at_make; refine wpList_make_full _ rfl _ _ 93 rfl W0.heap.size 4 i1 (.bool false) 1 Try.underlying93 hi1 hy0 hy1 .i64 .i64 _ _ N rfl rfl rfl rfl (by rw [hy2]; omega) (by unfold maxLen; omega) (Nat.le_refl _) ?_)
  intro w1 hown hgrow
  have hbw : Below W0.heap.size W0 w1 := (Below.refl _ W0).grown hgrow (Nat.le_refl _) (by simp)
  have HM1 : Hid (Bl w1 W0.heap.size N (fun j => decide ((j : Int) ∈ NS.take 0))) := (Bl.made hown).congr fun k => by simp
  have HB1 := Lib.hid (HB0.out.trans (hbw.mono HB0.out.size))
  have HR1 := Lib.hid (HR0.out.below (hbw.mono (Nat.le_trans hH HB0.out.size)))
  have HG1 := Lib.hid (HG0.out.below hbw (Nat.le_refl _))
  have hs0 : w.heap.size ≤ W0.heap.size := HB0.out.size
  have HGO : Hid (w.heap.size < W0.heap.size) := (HG0.out.slice.elim fun _ _ => by
    obtain ⟨xs, hx, _⟩ := HG0.out
    exact (hx.lt _ rfl).2)
  clear hown hgrow hbw HG0 HB0 HR0 HIN HFACT
  generalize hG : W0.heap.size = G at *
  clear hG
  obtain ⟨B, hB⟩ : ∃ B, B = w.heap.size := ⟨_, rfl⟩
  have HBB := Lib.hid hB
  rw [← hB] at HG1 HB1 hs0 hH HGO ⊢
  clear hB
  go_wp2
  go_loopw [6] (fun i wr => ∃ k : Nat, k ≤ n ∧ i = .int .i64 k ∧ Hid (Bl wr G N (fun j => decide ((j : Int) ∈ NS.take k))) ∧ Hid (GrowS wr B (.slice (some ⟨B, 0, none⟩) 0 0) []) ∧ Hid (Rd wr H A n l) ∧ Hid (Below B w wr)) (fun i _ => n - (intOf i).toNat)
  case atStart => exact ⟨0, by omega, rfl, HM1, HG1, HR1, HB1⟩
  case round =>
    obtain ⟨k, hk, rfl, hbl, hgs, hrd, hbw⟩ := hrel
    clear HM1 HG1 HR1 HB1
    by_cases hlt : k < n
    · have hwB := hbl.out.lt
      have HC := Lib.hid (HAT.out k hlt wr hrd.out (by omega))
      have HD := Lib.hid (HNU.out k hlt)
      have hbd := HBD.out k hlt
      have HTKK := Lib.hid (HTK.out k hlt)
      have HLL := HSL.out k
      generalize swapL l (k : Int) = q at *
      generalize hy : numP q n = y at *
      clear hy
      go_wp2_with fail
      refine HC.out.mono ?_
      rintro e w3 ⟨v, rfl, ho, hb3⟩
      obtain ⟨A3, c3, rfl⟩ := ho.slice
      have hrd3 := ho.rd.2
      rw [HLL] at hrd3 ⊢
      have HBL3 := Lib.hid (hbl.out.below hb3 hbl.out.lt)
      have HGS3 := Lib.hid (hgs.out.below hb3 (Nat.le_refl _))
      have HRD3 := Lib.hid (hrd.out.below (hb3.mono (by omega)))
      have HBW3 := Lib.hid (hbw.out.trans (hb3.mono (by omega)))
      have hs3 := hb3.size
      clear hbl hgs hrd hbw ho hb3
      go_wp2_with fail
      refine (HD.out w3 A3 c3 _ hrd3).mono ?_
      rintro e w4 ⟨rfl, hb4⟩
      have hb := HBL3.out.below hb4 HBL3.out.lt
      obtain ⟨m, rfl⟩ : ∃ m : Nat, y = (m : Int) := ⟨y.toNat, by omega⟩
      have hm : m < N := by omega
      have hcell := hb.cell hm
      have hfr := hb.frozen m
      have HS1 : Hid (Bl (w4.setCell ⟨G, m, none⟩ (.bool true)) G N (fun j => decide ((j : Int) ∈ NS.take (k + 1)))) := (hb.set hm).congr fun j => by
        rw [HTKK.out j]
        congr 1
        simp
      have hst : w4.grownBy (w4.setCell ⟨G, m, none⟩ (.bool true)) (some G) := ⟨rfl, rfl, rfl, by simp, fun j hj hne => Below.heap_setCell _ _ _ _ (by intro e; exact hne (by rw [e]))⟩
      have HG4 : Hid (GrowS (w4.setCell ⟨G, m, none⟩ (.bool true)) B (.slice (some ⟨B, 0, none⟩) 0 0) []) := by
        obtain ⟨xs, hx, _⟩ := HGS3.out.below hb4 (Nat.le_refl _)
        refine ⟨xs, hx.kept hst (.inr (by intro e; have e2 : B = G := Option.some.inj e; have := HGO.out; omega)), fun j hj => by simp at hj⟩
      have HR4 := Lib.hid (((HRD3.out.below (hb4.mono (by omega))).below (Below.refl H w4)).below ((Below.refl H w4).grown hst (by have := hb4.size; omega) (by intro i hi; have e : G = i := Option.some.inj hi; omega)))
      have HB4 := Lib.hid ((HBW3.out.trans (hb4.mono (by omega))).grown hst (by have := hb4.size; omega) (by intro i hi; have e : G = i := Option.some.inj hi; omega))
      clear hb hst hb4 hrd3 HBL3 HGS3 HRD3 HBW3
      generalize decide ((m : Int) ∈ NS.take k) = old at hcell
      go_wp2
      go_roundw
      case rel => exact ⟨k + 1, by omega, by go_num, HS1, HG4, HR4, HB4⟩
      case measure => simp [intOf]; omega
    · obtain rfl : k = n := by omega
      rw [HALL.out] at hbl
      clear HALL HTK HBD HNU HAT
      go_wp2
      go_loopw [4, 7] (fun v i wr => ∃ j : Nat, j ≤ N ∧ i = .int .i64 j ∧ Hid (GrowS wr B v (T j)) ∧ Hid (Bl wr G N (fun j => decide ((j : Int) ∈ NS))) ∧ Hid (Below B w wr)) (fun _ i _ => N - (intOf i).toNat)
      case atStart => exact ⟨0, by omega, rfl, by rw [HT0.out]; exact hgs, hbl, hbw⟩
      case round =>
        obtain ⟨j, hj, rfl, hg, hbb, hb⟩ := hrel
        clear hbl hgs hbw hrd
        by_cases hlj : j < N
        · have hcell := hbb.out.cell hlj
          have hgB := hbb.out.lt
          by_cases hin : (j : Int) ∈ NS
          · have HST := Lib.hid (HYES.out j hin)
            rw [decide_eq_true hin] at hcell
            have HC := Lib.hid (HBY.out j hlj)
            have hll := HBL.out j
            have hkl := HLEN.out j
            generalize byL k (j : Int) = R at *
            clear hin
            go_wp2_with fail
            refine (HC.out _).mono ?_
            rintro e w3 ⟨v, rfl, ho, hb3⟩
            obtain ⟨Ar, cr, rfl⟩ := ho.slice
            have HRV : Hid (RowV w3 B (.slice Ar k cr) R) := by
              have hr := own_rowV5 ho
              rw [hll] at hr
              exact hr.less (by omega)
            rw [hll]
            have HG3 := Lib.hid (hg.out.below hb3 (Nat.le_refl _))
            have HBB3 := Lib.hid (hbb.out.below hb3 hbb.out.lt)
            have HB3 := Lib.hid (hb.out.trans (hb3.mono (by omega)))
            have hs3 := hb3.size
            clear ho hb3 hg hbb hb hcell
            obtain ⟨xs, hx1, hx2⟩ := HG3.out
            have HX1 := Lib.hid hx1
            have HX2 := Lib.hid hx2
            clear hx1 hx2
            go_wp2_with (at_builtin; refine wpList_append_own _ rfl _ _ 25 rfl B 23 i0 (.slice none 0 0) 1 24 Try.underlying25 hi hz0 hz1 hz2 rfl (by decide) _ _ _ rfl (HX1.out.alloc _) ⟨w3.heap.size, 0, none⟩ 1 1 [.slice Ar k cr] rfl rfl (one_cell w3 _ _) (by simp [Value.oneCell']) (by unfold maxLen; omega) (by omega) (by simp; omega) ?_)
            intro v' w5 hown5 hgr5 _
            have HG5 := Lib.hid (grow_row rfl HX1.out HX2.out HRV.out _ hown5 hgr5)
            rw [← HST.out] at HG5
            have HB5 := Lib.hid ((HB3.out.alloc (by omega) _).grown hgr5 (by simp; omega) (fun i hi => (HX1.out.lt i hi).1))
            have HBB5 := Lib.hid ((show Bl (w3.alloc (.cells #[.slice Ar k cr] 23)) G N _ from (Below.heap_alloc w3 _ G HBB3.out.lt).trans HBB3.out).grown hgr5 (fun e => HBB3.out.not_rows HX1.out e.symm))
            clear hown5 hgr5
            go_wp2
            go_roundw
            case rel => exact ⟨j + 1, by omega, by go_num, HG5, HBB5, HB5⟩
            case measure => simp [intOf]; omega
          · have HST := Lib.hid (HNO.out j hin)
            rw [decide_eq_false hin] at hcell
            clear hin
            go_wp2
            go_roundw
            case rel => exact ⟨j + 1, by omega, by go_num, by rw [HST.out]; exact hg, hbb, hb⟩
            case measure => simp [intOf]; omega
        · obtain rfl : j = N := by omega
          obtain ⟨A9, c9, rfl, _⟩ := hg.out.slice
          go_wp2
          go_ret2
          exact ⟨_, rfl, ⟨A9, c9, rfl, hg.out.rd.2⟩, by have h := hb.out; rw [HBB.out] at h; exact h⟩
end Go.Proofs.Ytamnacgclhaggab
