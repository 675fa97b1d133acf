/- TermArcs: the model's, and both as a law asks. -/
import Derived.Deep.RegionWith
import Derived.Maps.AppendAt
import Derived.Test.YthpomflpnmddoaaGreatDoorTa2
import Derived.Test.YthpomflpnmddoaaGreatDoorTn7
import Derived.Test.YthpomflpnmddoaaGreatDoorDR
namespace Go.Proofs.YthpomflpnmddoaaGreatDoor
open Go.ChangeShapes Go.WideShapes Go.ChangeAt Go.RowKit

/-- Block g holds 128 marks. -/
def Marks (w : World) (g : Nat) (f : Nat → Bool) : Prop := ∃ cur, w.heap[g]? = some (.cells cur 4 (0, 0)) ∧ cur.size = 128 ∧ ∀ j, j < 128 → cur[j]? = some (.bool (f j))
section
variable {w w' : World} {g : Nat} {f : Nat → Bool}
theorem Marks.lt (h : Marks w g f) : g < w.heap.size := by obtain ⟨cur, hg, _⟩ := h; exact (Array.getElem?_eq_some_iff.1 hg).1
theorem Marks.same (h : Marks w g f) (hk : w'.heap[g]? = w.heap[g]?) : Marks w' g f := by
  obtain ⟨cur, hg, hs, hr⟩ := h
  exact ⟨cur, hk.trans hg, hs, hr⟩
theorem Marks.cell (h : Marks w g f) {j : Nat} (hj : j < 128) : w.cell? ⟨g, j, none⟩ = some (.bool (f j)) := by
  obtain ⟨cur, hg, hs, hr⟩ := h
  rw [cell_of_row w g j cur _ _ hg]
  exact hr j hj
theorem Marks.frozen (h : Marks w g f) (j : Nat) : w.frozen? ⟨g, j, none⟩ = false := by
  obtain ⟨cur, hg, hs, hr⟩ := h
  exact frozen_of_row w g j cur _ hg
theorem Marks.set (h : Marks w g f) {s : Nat} (hs : s < 128) : Marks (w.setCell ⟨g, s, none⟩ (.bool true)) g (fun j => f j || decide (j = s)) := by
  obtain ⟨cur, hg, hz, hr⟩ := h
  refine ⟨cur.setIfInBounds s (.bool true), heap_setCell_same w g _ cur _ _ hg, by simpa using hz, fun j hj => ?_⟩
  rw [Array.getElem?_setIfInBounds]
  by_cases e : s = j
  · subst e; rw [if_pos rfl, if_pos (by omega)]; simp
  · have e' : ¬ j = s := fun h => e h.symm
    rw [if_neg e, hr j hj]; simp [e']
theorem Marks.congr (h : Marks w g f) {f' : Nat → Bool} (hf : ∀ j, j < 128 → f j = f' j) : Marks w g f' := by
  obtain ⟨cur, hg, hz, hr⟩ := h
  exact ⟨cur, hg, hz, fun j hj => by rw [hr j hj, hf j hj]⟩
end
theorem grown_below {a b : World} {D : Nat} (h : Below D a b) (hD : a.heap.size ≤ D) (g : Option Nat) : a.grownBy b g := ⟨h.os, h.tape, h.output, h.size, fun i hi _ => h.block i (by omega)⟩
theorem grown_set (w : World) (g s : Nat) (v : Value) : w.grownBy (w.setCell ⟨g, s, none⟩ v) (some g) := ⟨rfl, rfl, rfl, by simp, fun k _ hk => Below.heap_setCell _ _ _ _ (by simpa using hk)⟩
theorem grown_refl (a : World) (g : Option Nat) : a.grownBy a g := ⟨rfl, rfl, rfl, Nat.le_refl _, fun _ _ _ => rfl⟩

theorem sets_kids (t : Tm) (hok : t.ok) : t.sets = (if t.sig = 40 then [bitsU t.row] else []) ++ Tm.setss t.kids := by
  cases t with
  | L c =>
    rw [Tm.ok] at hok
    have : c ≠ 40 := fun e => by subst e; exact absurd hok (by decide)
    simp [Tm.sets, Tm.kids, Tm.setss, Tm.sig, this]
  | S t => simp [Tm.sets, Tm.kids, Tm.setss, Tm.sig]
  | B ts => simp [Tm.sets, Tm.kids, Tm.sig, Tm.row]

/-- The marks are handed back, with a term's sets marked. -/
def MarkQ (l : List Nat) (g : Nat) (f : Nat → Bool) (w : World) (e : Ending) (w' : World) : Prop :=
  e = .returned (.slice (some ⟨g, 0, none⟩) 128 128) ∧ Marks w' g (fun j => f j || decide (j ∈ l)) ∧ w.grownBy w' (some g)

attribute [local go_sem ↓] ld9_fold st9_fold in
set_option maxRecDepth 10000 in
set_option maxHeartbeats 2000000 in
theorem markS_core (s0 : Int) (A : Option Addr) (d0 : Nat) (ts : List Tm) (g : Nat) (f : Nat → Bool) (pre : List Nat) (w : World) (hn60 : ts.length ≤ 60) (hM : Marks w g f)
    (hpre : Hid ((s0 = 40 ∧ ∃ row : List UInt8, pre = [bitsU row] ∧ row.length ≤ 60 ∧ (∀ c ∈ row, isL c = true) ∧
        ∀ W, w.grownBy W (some g) → Calls Tryz.prog 20 #[.agg #[.int .u8 s0, .slice A ts.length d0], .bool false] W (RowM row W)) ∨ ((s0 == 40) = false ∧ pre = [])))
    (HC : Hid (∀ k (hk : k < ts.length), ∃ h x y, A = some ⟨h, 0, none⟩ ∧ h < w.heap.size ∧ h ≠ g ∧ w.cell? ⟨h, k * 2, none⟩ = some x ∧ w.cell? ⟨h, k * 2 + 1, none⟩ = some y ∧
      ∀ W f', w.grownBy W (some g) → Marks W g f' → Calls Tryz.prog 21 #[.agg #[x, y], .slice (some ⟨g, 0, none⟩) 128 128] W (MarkQ ts[k].sets g f' W))) :
    Calls Tryz.prog 21 #[.agg #[.int .u8 s0, .slice A ts.length d0], .slice (some ⟨g, 0, none⟩) 128 128] w (MarkQ (pre ++ Tm.setss ts) g f w) := by
  obtain ⟨n, hn⟩ : ∃ n, n = ts.length := ⟨_, rfl⟩
  rw [← hn] at hn60 hpre ⊢
  have HN := Lib.hid hn
  have hgl := hM.lt
  have HM := Lib.hid hM
  have HV0 := Lib.hid (V9.new w (.int .u8 s0) (.slice A n d0))
  have HG0 := Lib.hid (World.grownBy_alloc w (.cells #[.int .u8 s0, .slice A n d0] 46) (some g))
  clear hn hM
  rcases hpre.out with ⟨rfl, row, rfl, hr60, hrL, hRW⟩ | ⟨hne, rfl⟩
  · have HRW := Lib.hid (hRW _ HG0.out)
    have HM0 := Lib.hid (HM.out.same (Below.heap_alloc w (.cells #[.int .u8 40, .slice A n d0] 46) g hgl))
    have l0 := HV0.out.ld
    have c00 := HV0.out.c0
    obtain ⟨q, hq⟩ : ∃ q, q = bs row := ⟨_, rfl⟩
    have hq1 : q.data.toList = row := by rw [hq, bs_list]
    have hq2 : q.size ≤ 1000 := by rw [hq, bs_size]; omega
    obtain ⟨p, hp⟩ : ∃ p, p = ptsU row := ⟨_, rfl⟩
    have hpin : Hid (∀ x ∈ p, 0 ≤ x ∧ x < 7) := by rw [Hid, hp]; exact ptsU_in hrL
    have HLS := Lib.hid (fun V => list9_any q V hq2)
    rw [hq1, ← hp] at HLS
    have hpl : p.length ≤ 60 := by rw [hp, ptsU_len]; exact hr60
    obtain ⟨S, hS⟩ : ∃ S, S = bitsU row := ⟨_, rfl⟩
    have hmk : Hid (maskN p = S) := by rw [Hid, hp, hS]; rfl
    have hS128 : S < 128 := by rw [hS]; exact maskN_lt 7 (ptsU row) (by simpa using ptsU_in hrL)
    rw [← hS]
    have HQ := Lib.hid hq
    obtain ⟨W0, hW⟩ : ∃ W, W = w.alloc (.cells #[.int .u8 40, .slice A n d0] 46) := ⟨_, rfl⟩
    have hz0 : W0.heap.size = w.heap.size + 1 := by rw [hW]; simp
    rw [← hW] at HV0 HG0 HM0 HRW
    have HZ0 := Lib.hid hz0
    have HW := Lib.hid hW
    clear hq hq1 hq2 hp hS hRW hpre hrL hz0 hW
    go_enter Tryz.func21, Tryz.ntmps21
    go_wp2_with fail
    rw [← HW.out]
    clear l0 c00
    refine HRW.out.mono ?_
    rintro e w1 ⟨rfl, hb1⟩
    rw [← HQ.out]
    have HB1 := Lib.hid hb1
    clear hb1 HRW
    go_wp2_with fail
    refine (HLS.out w1).mono ?_
    rintro e w2 ⟨v, rfl, ho, hb2⟩
    obtain ⟨A2, d2, rfl⟩ : ∃ A d, v = .slice A p.length d := by
      rcases ho.2 with ⟨e, h0⟩ | ⟨g, cap, cur, e, _⟩
      · exact ⟨none, 0, by rw [e, h0]⟩
      · exact ⟨_, cap, e⟩
    have HRD := Lib.hid ho.rd.2
    have HG2 := Lib.hid (grown_below (HB1.out.trans (hb2.mono HB1.out.size)) (Nat.le_refl _) (some g))
    have HM2 := Lib.hid (HM0.out.same ((HB1.out.trans (hb2.mono HB1.out.size)).block g (by have := HZ0.out; omega)))
    clear ho hb2 HLS HB1
    go_wp2_with fail
    refine (setS_any A2 p.length d2 w2.heap.size p w2 HRD.out (by omega) hpin.out).mono ?_
    rintro e w' ⟨rfl, rfl⟩
    rw [hmk.out]
    have cS := HM2.out.cell hS128
    have fS := HM2.out.frozen S
    have HMk := Lib.hid ((HM2.out.set hS128).congr (f' := fun j => f j || decide (j ∈ [S] ++ Tm.setss (ts.take 0))) fun j _ => by simp [Tm.setss])
    have HGk := Lib.hid (grown_trans HG2.out (grown_set w2 g S (.bool true)))
    generalize f S = fs at cS
    clear HG2 HM2 HM0 HRD
    go_wp2_with fail
    go_loopw [1, 5] (fun m i wr => ∃ k : Nat, k ≤ n ∧ i = .int .i64 k ∧ m = .slice (some ⟨g, 0, none⟩) 128 128 ∧ Hid (Marks wr g (fun j => f j || decide (j ∈ [S] ++ Tm.setss (ts.take k)))) ∧ Hid (W0.grownBy wr (some g))) (fun _ i _ => n - (intOf i).toNat)
    case atStart => exact ⟨0, Nat.zero_le _, rfl, rfl, HMk.out, HGk.out⟩
    case round =>
      obtain ⟨k, hk, rfl, rfl, hM, hG⟩ := hrel
      have hV := HV0.out.grown hG.out (by omega)
      have c0 := hV.c0
      have c1 := hV.c1
      have HGW := Lib.hid (grown_trans HG0.out hG.out)
      by_cases hlt : k < n
      · have hkt : k < ts.length := by have := HN.out; omega
        obtain ⟨h, x, y, rfl, hh, hhg, hx, hy, hC⟩ := HC.out k hkt
        have hbk : wr.heap[h]? = w.heap[h]? := HGW.out.block h hh (by simpa using hhg)
        have HL := ld9_at ((World.cell?_of_block (a := ⟨h, k * 2, none⟩) hbk).trans hx) ((World.cell?_of_block (a := ⟨h, k * 2 + 1, none⟩) hbk).trans hy)
        have HD := Lib.hid (hC wr _ HGW.out hM.out)
        have hE : Hid (∀ j, ((f j || decide (j ∈ [S] ++ Tm.setss (ts.take k))) || decide (j ∈ (ts[k]'hkt).sets)) = (f j || decide (j ∈ [S] ++ Tm.setss (ts.take (k + 1))))) := by
          intro j
          rw [take_snocT ts k hkt, setss_snoc, Bool.or_assoc]
          simp [Bool.or_assoc]
        clear hx hy hC hV hbk
        go_wp2_with (go_at_call 21; refine HD.out.mono ?_; rintro e w5 ⟨rfl, hm5, hg5⟩; have HM5 := Lib.hid hm5; have HG5 := Lib.hid hg5; clear hm5 hg5)
        go_roundw
        case rel => exact ⟨k + 1, by omega, by go_num, rfl, HM5.out.congr fun j _ => hE.out j, grown_trans hG.out HG5.out⟩
        case measure => simp [intOf]; omega
      · obtain rfl : k = n := by omega
        have e : Tm.setss (ts.take k) = Tm.setss ts := by rw [List.take_of_length_le (by have := HN.out; omega)]
        have hM1 := hM.out
        rw [e] at hM1
        have HM1 := Lib.hid hM1
        clear hM hM1 e hV
        go_wp2_with fail
        go_ret
        exact ⟨rfl, HM1.out, HGW.out⟩
  · have HMk := Lib.hid ((HM.out.same (Below.heap_alloc w (.cells #[.int .u8 s0, .slice A n d0] 46) g hgl)).congr (f' := fun j => f j || decide (j ∈ ([] : List Nat) ++ Tm.setss (ts.take 0))) fun j _ => by simp [Tm.setss])
    obtain ⟨W0, hW⟩ : ∃ W, W = w.alloc (.cells #[.int .u8 s0, .slice A n d0] 46) := ⟨_, rfl⟩
    rw [← hW] at HV0 HG0 HMk
    have HGk := Lib.hid (grown_refl W0 (some g))
    have HW := Lib.hid hW
    clear hpre hW
    go_enter Tryz.func21, Tryz.ntmps21
    go_wp2_with fail
    rw [← HW.out]
    go_loopw [1, 5] (fun m i wr => ∃ k : Nat, k ≤ n ∧ i = .int .i64 k ∧ m = .slice (some ⟨g, 0, none⟩) 128 128 ∧ Hid (Marks wr g (fun j => f j || decide (j ∈ ([] : List Nat) ++ Tm.setss (ts.take k)))) ∧ Hid (W0.grownBy wr (some g))) (fun _ i _ => n - (intOf i).toNat)
    case atStart => exact ⟨0, Nat.zero_le _, rfl, rfl, HMk.out, HGk.out⟩
    case round =>
      obtain ⟨k, hk, rfl, rfl, hM, hG⟩ := hrel
      have hV := HV0.out.grown hG.out (by omega)
      have c0 := hV.c0
      have c1 := hV.c1
      have HGW := Lib.hid (grown_trans HG0.out hG.out)
      by_cases hlt : k < n
      · have hkt : k < ts.length := by have := HN.out; omega
        obtain ⟨h, x, y, rfl, hh, hhg, hx, hy, hC⟩ := HC.out k hkt
        have hbk : wr.heap[h]? = w.heap[h]? := HGW.out.block h hh (by simpa using hhg)
        have HL := ld9_at ((World.cell?_of_block (a := ⟨h, k * 2, none⟩) hbk).trans hx) ((World.cell?_of_block (a := ⟨h, k * 2 + 1, none⟩) hbk).trans hy)
        have HD := Lib.hid (hC wr _ HGW.out hM.out)
        have hE : Hid (∀ j, ((f j || decide (j ∈ ([] : List Nat) ++ Tm.setss (ts.take k))) || decide (j ∈ (ts[k]'hkt).sets)) = (f j || decide (j ∈ ([] : List Nat) ++ Tm.setss (ts.take (k + 1))))) := by
          intro j
          rw [take_snocT ts k hkt, setss_snoc, Bool.or_assoc]
          simp
        clear hx hy hC hV hbk
        go_wp2_with (go_at_call 21; refine HD.out.mono ?_; rintro e w5 ⟨rfl, hm5, hg5⟩; have HM5 := Lib.hid hm5; have HG5 := Lib.hid hg5; clear hm5 hg5)
        go_roundw
        case rel => exact ⟨k + 1, by omega, by go_num, rfl, HM5.out.congr fun j _ => hE.out j, grown_trans hG.out HG5.out⟩
        case measure => simp [intOf]; omega
      · obtain rfl : k = n := by omega
        have e : Tm.setss (ts.take k) = Tm.setss ts := by rw [List.take_of_length_le (by have := HN.out; omega)]
        have hM1 := hM.out
        rw [e] at hM1
        have HM1 := Lib.hid hM1
        clear hM hM1 e hV
        go_wp2_with fail
        go_ret
        exact ⟨rfl, HM1.out, HGW.out⟩

theorem markS_all (m : Nat) : ∀ (t : Tm) (a b : Value) (g : Nat) (f : Nat → Bool) (w : World), t.len ≤ m → t.len ≤ 60 → t.ok → TS w (fun k => k < w.heap.size ∧ k ≠ g) t a b → Marks w g f → Calls Tryz.prog 21 #[.agg #[a, b], .slice (some ⟨g, 0, none⟩) 128 128] w (MarkQ t.sets g f w) := by
  induction m with
  | zero => intro t a b g f w h; have := len_pos t; omega
  | succ m ih =>
    intro t a b g f w hm h60 hok h hM
    have hrl := trow_le t
    have hrL := row_L t hok
    obtain ⟨e1, A, d, e2⟩ := h.form
    subst e1; subst e2
    rw [sets_kids t hok]
    have hkl := kids_lens t
    have hkn := lens_len t.kids
    have hgl := hM.lt
    refine markS_core _ A d t.kids g f _ w (by omega) hM ?_ fun k hkt => ?_
    · by_cases h40 : t.sig = 40
      · left
        refine ⟨by rw [h40]; rfl, t.row, by rw [if_pos h40], by omega, hrL, fun W hg => ?_⟩
        exact rowM_any (w := W) hok h60 (TS.keep (fun k hk => hg.block k hk.1 (by simpa using hk.2)) (fun k hk => by have := hg.size; omega) _ _ _ h) false
      · right
        refine ⟨?_, by rw [if_neg h40]⟩
        simp; intro e; exact h40 (UInt8.toNat_inj.1 (by simp; omega))
    · obtain ⟨g', d', e3, hg, hk⟩ := h.kid (by omega)
      injection e3 with e3 _ _
      obtain ⟨x, y, hx, hy, hr⟩ := hk k hkt
      have hne : g' ≠ g := by
        cases t with
        | L c => simp [Tm.kids] at hkt
        | S u =>
          rw [TS] at h
          obtain ⟨_, g2, d2, cur, x2, y2, e4, _, h4, _⟩ := h
          injection e4 with e4 _ _
          rw [e3] at e4
          injection e4 with e4
          injection e4 with e4 _
          rw [e4]; exact h4.2
        | B us =>
          rw [TS] at h
          obtain ⟨_, g2, d2, cur, e4, _, h4, _⟩ := h
          injection e4 with e4 _ _
          rw [e3] at e4
          injection e4 with e4
          injection e4 with e4 _
          rw [e4]; exact h4.2
      refine ⟨g', x, y, e3, hg, hne, hx, hy, fun W f' hgr hM' => ?_⟩
      have hlm := len_mem (List.getElem_mem hkt)
      exact ih _ x y g f' W (by omega) (by omega) (oks_mem (kids_ok t hok) _ (List.getElem_mem hkt)) (TS.keep (fun k hk => hgr.block k hk.1 (by simpa using hk.2)) (fun k hk => ⟨by have := hgr.size; have := hk.1; omega, hk.2⟩) _ _ _ hr) hM'

theorem bool_info : (Tryz.prog.info? 4).map (fun i => (i.zero, i.size, i.bytes)) = some (some (.bool false), 1, 1) := by kernel_rfl
theorem make128 (W : World) : ∃ W', (Instr.makeSlice 50 (.int .i64 128) (.int .i64 128)).run Tryz.prog W = .ok (.slice (some ⟨W.heap.size, 0, none⟩) 128 128) W' ∧ Hid (Marks W' W.heap.size (fun _ => false)) ∧ Hid (Below W.heap.size W W') := by
  obtain ⟨i0, hi, hz0, hz1, hz2⟩ := info_parts bool_info
  obtain ⟨W', hr, ho, hg⟩ := run_make_full (P := Tryz.prog) W W.heap.size 50 4 i0 (.bool false) 1 Tryz.underlying50 hi hz0 hz1 .i64 .i64 128 (by rw [hz2]; decide) (by decide) (Nat.le_refl _)
  refine ⟨W', hr, ?_, (Below.refl _ _).grown hg (Nat.le_refl _) (by simp)⟩
  rcases ho.2 with ⟨e, _⟩ | ⟨g, cap, cur, e, _, hgg, _, _, hs, ht⟩
  · cases e
  · injection e with e1 _ e3
    injection e1 with e1
    injection e1 with e1
    subst e1; subst e3
    refine ⟨cur, hgg, by omega, fun j hj => ?_⟩
    have h1 : (cur.toList.take (128 * 1))[j]? = (madeCells (Value.bool false).cells (128 * 1)).toList[j]? := by rw [ht]
    rw [List.getElem?_take, if_pos (by omega)] at h1
    have e2 : (madeCells (Value.bool false).cells (128 * 1)).toList = List.replicate 128 (.bool false) := toList_madeCells_one _ _
    rw [e2, List.getElem?_replicate, if_pos hj] at h1
    simpa using h1

theorem apI_run9 {V : World} {B : Nat} {v : Value} {C : List Int} (h : Own V B v C) (hB : B ≤ V.heap.size) (hl : C.length ≤ 3000) (x : Int) :
    ∃ v' w', (∀ ty, (apI #[24, 24] ty #[v, .slice (some ⟨V.heap.size, 0, none⟩) 1 1]).run Tryz.prog (V.alloc (.cells #[.int .i64 x] 3)) = .ok v' w') ∧ Own w' B v' (C ++ [x]) ∧ (V.alloc (.cells #[.int .i64 x] 3)).grownBy w' v.ownBlock ∧ (v'.ownBlock = v.ownBlock ∨ v'.ownBlock = some (V.heap.size + 1)) := by
  obtain ⟨i0, hi, hz0, hz1, hz2⟩ := info_parts int_info
  obtain ⟨v', w', hrun, hown, hgr, _, hob⟩ := run_append_own_at (P := Tryz.prog) (w := V.alloc (.cells #[.int .i64 x] 3)) B 24 24 3 i0 (.int .i64 0) 1 8 Tryz.underlying24 hi hz0 hz1 hz2 rfl (by decide) v C.length (ints C) (World.ownsRow.alloc h _) ⟨V.heap.size, 0, none⟩ 1 1 [.int .i64 x] rfl (one_cell V _ _) (by simp [Value.oneCell']) (by unfold maxLen; omega) (by omega) (by simp; omega)
  refine ⟨v', w', fun _ => hrun, by unfold Own; simpa [ints] using hown, hgr, ?_⟩
  simpa using hob

/-- The first sets that are marked. -/
def arcK (t : Tm) (k : Nat) : List Int := ((List.range k).filter fun s => decide (0 < s ∧ s ∈ t.sets)).map fun (s : Nat) => (s : Int)
theorem arcK_one (t : Tm) : arcK t 1 = [] := by simp [arcK, List.range, List.range.loop]
theorem arcK_yes (t : Tm) (k : Nat) (h0 : 0 < k) (h : k ∈ t.sets) : arcK t (k + 1) = arcK t k ++ [(k : Int)] := by
  unfold arcK
  rw [List.range_succ, List.filter_append, List.map_append]
  simp [h0, h]
theorem arcK_no (t : Tm) (k : Nat) (h : k ∉ t.sets) : arcK t (k + 1) = arcK t k := by
  unfold arcK
  rw [List.range_succ, List.filter_append, List.map_append]
  simp [h]
theorem arcK_len (t : Tm) (k : Nat) : (arcK t k).length ≤ k := by
  unfold arcK
  rw [List.length_map]
  exact Nat.le_trans (List.length_filter_le _ _) (by simp)
theorem arcK_all (t : Tm) : arcK t (2 ^ t.row.length - 1) = t.arcs := rfl

attribute [local go_sem ↓] ld9_fold st9_fold in
theorem arcsS_no (s : ByteArray) (w : World) (h : ringT s.data.toList = none) : Calls Tryz.prog 6 #[.string s] w fun e w' => ∃ v, e = .returned (.tuple #[v, .bool false]) ∧ Own w' w.heap.size v [] ∧ Below w.heap.size w w' := by
  have HD := Lib.hid (ofNo s (w.alloc (.cells #[] 3)) h)
  have ho0 := own_empty w _ (Nat.le_refl _)
  have HO := Lib.hid ho0
  clear h ho0
  go_enter Tryz.func6, Tryz.ntmps6
  go_wp2_with (go_at_call 19; refine HD.out.mono ?_; rintro e w1 ⟨c, A, n, d, rfl, hb1⟩; obtain ⟨W2, r2, a2, b2⟩ := put9 w1 c A n d)
  go_ret2
  have hb := hb1.trans (b2.out.mono hb1.size)
  simp only [show (w.alloc (.cells #[] 3)).heap.size = w.heap.size + 1 by simp] at hb
  exact ⟨_, rfl, own_same HO.out (fun i hi => hb.block i (by simp [Value.ownBlock] at hi; omega)), ((Below.refl _ _).alloc (Nat.le_refl _) _).trans (hb.mono (by omega))⟩
attribute [local go_sem ↓] ld9_fold st9_fold apI_fold in
set_option maxRecDepth 10000 in
set_option maxHeartbeats 2000000 in
theorem arcsS_yes (s : ByteArray) (w : World) (t : Tm) (h : ringT s.data.toList = some t) : Calls Tryz.prog 6 #[.string s] w fun e w' => ∃ v, e = .returned (.tuple #[v, .bool true]) ∧ Own w' w.heap.size v t.arcs ∧ Below w.heap.size w w' := by
  obtain ⟨hok, hlen, h60⟩ := rdT_ok (ringT_ok h).1
  have hT := (ringT_ok h).2
  have h7 : t.row.length ≤ 7 := by have := hT.2.1; rwa [ptsU_len] at this
  have h3 : 3 ≤ t.row.length := by have := hT.1; rwa [ptsU_len] at this
  have HRW : Hid (∀ (a b : Value) (W : World), TS W (fun k => k < W.heap.size) t a b → Calls Tryz.prog 20 #[.agg #[a, b], .bool false] W (RowM t.row W)) := fun a b W hv => rowM_any hok (by omega) hv false
  have HMK : Hid (∀ (a b : Value) (g : Nat) (f : Nat → Bool) (W : World), TS W (fun k => k < W.heap.size ∧ k ≠ g) t a b → Marks W g f → Calls Tryz.prog 21 #[.agg #[a, b], .slice (some ⟨g, 0, none⟩) 128 128] W (MarkQ t.sets g f W)) := fun a b g f W hv hM => markS_all t.len t a b g f W (Nat.le_refl _) (by omega) hok hv hM
  obtain ⟨n, hn⟩ : ∃ n, n = t.row.length := ⟨_, rfl⟩
  obtain ⟨M, hMn⟩ : ∃ M, M = 2 ^ n - 1 := ⟨_, rfl⟩
  have HAL : Hid (arcK t M = t.arcs) := by rw [Hid, hMn, hn]; exact arcK_all t
  rw [← hn] at h7 h3
  have HNM : Hid ((n = 3 ∧ M = 7) ∨ (n = 4 ∧ M = 15) ∨ (n = 5 ∧ M = 31) ∨ (n = 6 ∧ M = 63) ∨ (n = 7 ∧ M = 127)) := by
    rw [Hid]
    have h : n = 3 ∨ n = 4 ∨ n = 5 ∨ n = 6 ∨ n = 7 := by omega
    rcases h with h | h | h | h | h <;> rw [h] at hMn <;> simp at hMn <;> simp [h, hMn]
  obtain ⟨q, hq⟩ : ∃ q, q = bs t.row := ⟨_, rfl⟩
  have hqs : q.size = n := by rw [hq, bs_size, hn]
  have HQS := Lib.hid hqs
  have HQ := Lib.hid hq
  have HD := Lib.hid (ofYes s (w.alloc (.cells #[] 3)) t h)
  have HO := Lib.hid (own_empty w _ (Nat.le_refl _))
  clear h hok hlen h60 hT hn hq hqs hMn h3 h7
  go_enter Tryz.func6, Tryz.ntmps6
  go_wp2_with fail
  refine HD.out.mono ?_
  rintro e w1 ⟨a, b, rfl, ht, hb1⟩
  have HT := Lib.hid ht
  obtain ⟨e1, A, d, e2⟩ := ht.form
  subst e1; subst e2
  obtain ⟨W2, r2, a2, b2⟩ := put9 w1 (t.sig.toNat : Int) A t.kids.length d
  have l2 := a2.out.ld
  have HT2 := Lib.hid (TS.keep (D' := fun k => k < W2.heap.size) (fun k hk => b2.out.block k hk) (fun k hk => by have := b2.out.size; omega) _ _ _ HT.out)
  have HRC := Lib.hid (HRW.out _ _ W2 HT2.out)
  have hb := hb1.trans (b2.out.mono hb1.size)
  have hz : (w.alloc (.cells #[] 3)).heap.size = w.heap.size + 1 := by simp
  rw [hz] at hb
  have hsz : w.heap.size + 1 ≤ W2.heap.size := by have := hb.size; omega
  have HB2 := Lib.hid hb
  have hw1 : w1.heap.size < W2.heap.size := a2.out.lt
  clear HRW ht HT hb1 HD hb hz
  go_wp2_with fail
  refine HRC.out.mono ?_
  rintro e w3 ⟨rfl, hb3⟩
  rw [← HQ.out]
  have hs3 := hb3.size
  have HV3 := Lib.hid (a2.out.below hb3 hw1)
  have HT3 : Hid (TS w3.drew (fun k => k < w3.heap.size) t (.int .u8 t.sig.toNat) (.slice A t.kids.length d)) := Lib.hid (TS.keep (D' := fun k => k < w3.heap.size) (fun k hk => (show w3.drew.heap[k]? = w3.heap[k]? from rfl).trans (hb3.block k hk)) (fun k hk => by omega) _ _ _ HT2.out)
  have HB3 := Lib.hid (HB2.out.trans (hb3.mono hsz))
  obtain ⟨W4, hmk, hM4, hb4⟩ := make128 w3.drew
  have hz3 : w3.drew.heap.size = w3.heap.size := rfl
  rw [hz3] at hmk hM4 hb4
  have l3 := (show V9 w3.drew w1.heap.size _ _ from HV3.out).ld
  have l4 := (show V9 W4 w1.heap.size _ _ from V9.below (w := w3.drew) HV3.out hb4.out (by omega)).ld
  have HB4 : Hid (Below (w.heap.size + 1) (w.alloc (.cells #[] 3)) W4) := HB3.out.drew.trans (hb4.out.mono (by omega))
  have HMC := Lib.hid (HMK.out _ _ w3.heap.size (fun _ => false) W4 (TS.keep (w := w3.drew) (fun k hk => hb4.out.block k hk) (fun k hk => ⟨by have := hb4.out.size; have h5 : w3.drew.heap.size = w3.heap.size := rfl; omega, by omega⟩) _ _ _ HT3.out) hM4.out)
  obtain ⟨B, hB⟩ : ∃ B, B = w.heap.size := ⟨_, rfl⟩
  obtain ⟨G, hG⟩ : ∃ G, G = w3.heap.size := ⟨_, rfl⟩
  have hG4 := hM4.out.lt
  rw [← hG] at hmk HMC hG4
  rw [← hB] at HB4 HO hsz
  have HBG : Hid (B + 1 ≤ G) := by rw [Hid]; omega
  have HOs := HO
  have HSB := Lib.hid hB
  have HSG := Lib.hid hG
  clear HRC hb3 HT2 HT3 HMK hM4 hb4 hz3 a2 b2 l2 r2 hs3 HB2 HV3 HB3 hw1 hsz hG HOs
  rw [← hB]
  clear hB
  go_wp2_with fail
  go_region_with (go_at_call 21; refine HMC.out.mono ?_; rintro e w5 ⟨rfl, hm5, hg5⟩; have HM5 := Lib.hid hm5; have HG5 := Lib.hid hg5; clear hm5 hg5)
  all_goals
    have HB5 : Hid (Below B w w5) := by
      have h0 : Below B w (w.alloc (.cells #[] 3)) := (Below.refl B w).alloc (by have := HSB.out; omega) _
      exact (h0.trans (HB4.out.mono (Nat.le_succ _))).grown HG5.out (by have := HBG.out; omega) (by intro k hk; injection hk with hk; subst hk; have := HBG.out; omega)
    have HO5 : Hid (Own w5 B (.slice (some ⟨B, 0, none⟩) 0 0) []) := by
      refine own_same HO.out fun k hk => ?_
      have e : B = k := by simpa [Value.ownBlock] using hk
      subst e
      have h1 := HG5.out.block B (by have := HBG.out; omega) (by intro h; injection h with h; have := HBG.out; omega)
      exact h1.trans (HB4.out.block B (by omega))
    rw [HQS.out]
    clear HO HG5 HB4 HQS HMC hmk l3 l4 hG4
    obtain ⟨rfl, rfl⟩ | ⟨rfl, rfl⟩ | ⟨rfl, rfl⟩ | ⟨rfl, rfl⟩ | ⟨rfl, rfl⟩ := HNM.out
    · clear HNM
      go_wp2_with fail
      go_loopw [4, 9] (fun out i wr => ∃ k : Nat, 1 ≤ k ∧ k ≤ 7 ∧ i = .int .i64 k ∧ Hid (Own wr B out (arcK t k)) ∧ Hid (out.ownBlock ≠ some G) ∧ Hid (Marks wr G (fun j => false || decide (j ∈ t.sets))) ∧ Hid (Below B w wr) ∧ Hid (B + 1 ≤ wr.heap.size)) (fun _ i _ => 7 - (intOf i).toNat)
      case atStart =>
        refine ⟨1, Nat.le_refl _, by omega, rfl, ?_, ?_, HM5.out, HB5.out, ?_⟩
        · rw [arcK_one]; exact HO5.out
        · intro h; have e : B = G := by simpa [Value.ownBlock] using h
          have := HBG.out; omega
        · have := HO5.out; have := HBG.out; have := HM5.out.lt; rw [Hid]; omega
      case round =>
        obtain ⟨k, hk1, hk, rfl, hO, hN, hM, hB⟩ := hrel
        obtain ⟨hB, hZ⟩ := hB
        by_cases hlt : k < 7
        · have hc := hM.out.cell (j := k) (by omega)
          have hkl := arcK_len t k
          by_cases hin : k ∈ t.sets
          · rw [show (false || decide (k ∈ t.sets)) = true by simp [hin]] at hc
            obtain ⟨v', w', hap, hown, hgr, hob⟩ := apI_run9 hO.out (by have := hZ.out; omega) (by omega) (k : Int)
            have HE := Lib.hid (arcK_yes t k (by omega) hin)
            have HOW := Lib.hid hown
            have HGR := Lib.hid hgr
            have HOB := Lib.hid hob
            clear hown hgr hob
            go_wp2_with fail
            go_roundw
            case rel =>
              refine ⟨k + 1, by omega, by omega, by go_num, ?_, ?_, ?_, ?_, ?_⟩
              · rw [HE.out]; exact HOW.out
              · rcases HOB.out with h | h
                · rw [Hid, h]; exact hN.out
                · rw [Hid, h]; intro h2; injection h2 with h2; have := hM.out.lt; omega
              · refine (hM.out.same (Below.heap_alloc _ _ G hM.out.lt)).same (HGR.out.block G (by have := hM.out.lt; simp; omega) fun h => hN.out h.symm)
              · exact apI_below hO.out HGR.out (Nat.le_refl _) hB.out (by have := hZ.out; omega)
              · have h1 := HGR.out.size; have h2 := hZ.out; simp at h1; rw [Hid]; omega
            case measure => simp [intOf]; omega
          · rw [show (false || decide (k ∈ t.sets)) = false by simp [hin]] at hc
            have HE := Lib.hid (arcK_no t k hin)
            go_wp2_with fail
            go_roundw
            case rel => exact ⟨k + 1, by omega, by omega, by go_num, by rw [HE.out]; exact hO.out, hN.out, hM.out, hB.out, hZ.out⟩
            case measure => simp [intOf]; omega
        · obtain rfl : k = 7 := by omega
          have hO2 := hO.out
          rw [HAL.out] at hO2
          have HO2 := Lib.hid hO2
          clear hO hO2
          go_wp2_with fail
          go_ret2
          exact ⟨_, rfl, HSB.out ▸ HO2.out, HSB.out ▸ hB.out⟩
    · clear HNM
      go_wp2_with fail
      go_loopw [4, 9] (fun out i wr => ∃ k : Nat, 1 ≤ k ∧ k ≤ 15 ∧ i = .int .i64 k ∧ Hid (Own wr B out (arcK t k)) ∧ Hid (out.ownBlock ≠ some G) ∧ Hid (Marks wr G (fun j => false || decide (j ∈ t.sets))) ∧ Hid (Below B w wr) ∧ Hid (B + 1 ≤ wr.heap.size)) (fun _ i _ => 15 - (intOf i).toNat)
      case atStart =>
        refine ⟨1, Nat.le_refl _, by omega, rfl, ?_, ?_, HM5.out, HB5.out, ?_⟩
        · rw [arcK_one]; exact HO5.out
        · intro h; have e : B = G := by simpa [Value.ownBlock] using h
          have := HBG.out; omega
        · have := HO5.out; have := HBG.out; have := HM5.out.lt; rw [Hid]; omega
      case round =>
        obtain ⟨k, hk1, hk, rfl, hO, hN, hM, hB⟩ := hrel
        obtain ⟨hB, hZ⟩ := hB
        by_cases hlt : k < 15
        · have hc := hM.out.cell (j := k) (by omega)
          have hkl := arcK_len t k
          by_cases hin : k ∈ t.sets
          · rw [show (false || decide (k ∈ t.sets)) = true by simp [hin]] at hc
            obtain ⟨v', w', hap, hown, hgr, hob⟩ := apI_run9 hO.out (by have := hZ.out; omega) (by omega) (k : Int)
            have HE := Lib.hid (arcK_yes t k (by omega) hin)
            have HOW := Lib.hid hown
            have HGR := Lib.hid hgr
            have HOB := Lib.hid hob
            clear hown hgr hob
            go_wp2_with fail
            go_roundw
            case rel =>
              refine ⟨k + 1, by omega, by omega, by go_num, ?_, ?_, ?_, ?_, ?_⟩
              · rw [HE.out]; exact HOW.out
              · rcases HOB.out with h | h
                · rw [Hid, h]; exact hN.out
                · rw [Hid, h]; intro h2; injection h2 with h2; have := hM.out.lt; omega
              · refine (hM.out.same (Below.heap_alloc _ _ G hM.out.lt)).same (HGR.out.block G (by have := hM.out.lt; simp; omega) fun h => hN.out h.symm)
              · exact apI_below hO.out HGR.out (Nat.le_refl _) hB.out (by have := hZ.out; omega)
              · have h1 := HGR.out.size; have h2 := hZ.out; simp at h1; rw [Hid]; omega
            case measure => simp [intOf]; omega
          · rw [show (false || decide (k ∈ t.sets)) = false by simp [hin]] at hc
            have HE := Lib.hid (arcK_no t k hin)
            go_wp2_with fail
            go_roundw
            case rel => exact ⟨k + 1, by omega, by omega, by go_num, by rw [HE.out]; exact hO.out, hN.out, hM.out, hB.out, hZ.out⟩
            case measure => simp [intOf]; omega
        · obtain rfl : k = 15 := by omega
          have hO2 := hO.out
          rw [HAL.out] at hO2
          have HO2 := Lib.hid hO2
          clear hO hO2
          go_wp2_with fail
          go_ret2
          exact ⟨_, rfl, HSB.out ▸ HO2.out, HSB.out ▸ hB.out⟩
    · clear HNM
      go_wp2_with fail
      go_loopw [4, 9] (fun out i wr => ∃ k : Nat, 1 ≤ k ∧ k ≤ 31 ∧ i = .int .i64 k ∧ Hid (Own wr B out (arcK t k)) ∧ Hid (out.ownBlock ≠ some G) ∧ Hid (Marks wr G (fun j => false || decide (j ∈ t.sets))) ∧ Hid (Below B w wr) ∧ Hid (B + 1 ≤ wr.heap.size)) (fun _ i _ => 31 - (intOf i).toNat)
      case atStart =>
        refine ⟨1, Nat.le_refl _, by omega, rfl, ?_, ?_, HM5.out, HB5.out, ?_⟩
        · rw [arcK_one]; exact HO5.out
        · intro h; have e : B = G := by simpa [Value.ownBlock] using h
          have := HBG.out; omega
        · have := HO5.out; have := HBG.out; have := HM5.out.lt; rw [Hid]; omega
      case round =>
        obtain ⟨k, hk1, hk, rfl, hO, hN, hM, hB⟩ := hrel
        obtain ⟨hB, hZ⟩ := hB
        by_cases hlt : k < 31
        · have hc := hM.out.cell (j := k) (by omega)
          have hkl := arcK_len t k
          by_cases hin : k ∈ t.sets
          · rw [show (false || decide (k ∈ t.sets)) = true by simp [hin]] at hc
            obtain ⟨v', w', hap, hown, hgr, hob⟩ := apI_run9 hO.out (by have := hZ.out; omega) (by omega) (k : Int)
            have HE := Lib.hid (arcK_yes t k (by omega) hin)
            have HOW := Lib.hid hown
            have HGR := Lib.hid hgr
            have HOB := Lib.hid hob
            clear hown hgr hob
            go_wp2_with fail
            go_roundw
            case rel =>
              refine ⟨k + 1, by omega, by omega, by go_num, ?_, ?_, ?_, ?_, ?_⟩
              · rw [HE.out]; exact HOW.out
              · rcases HOB.out with h | h
                · rw [Hid, h]; exact hN.out
                · rw [Hid, h]; intro h2; injection h2 with h2; have := hM.out.lt; omega
              · refine (hM.out.same (Below.heap_alloc _ _ G hM.out.lt)).same (HGR.out.block G (by have := hM.out.lt; simp; omega) fun h => hN.out h.symm)
              · exact apI_below hO.out HGR.out (Nat.le_refl _) hB.out (by have := hZ.out; omega)
              · have h1 := HGR.out.size; have h2 := hZ.out; simp at h1; rw [Hid]; omega
            case measure => simp [intOf]; omega
          · rw [show (false || decide (k ∈ t.sets)) = false by simp [hin]] at hc
            have HE := Lib.hid (arcK_no t k hin)
            go_wp2_with fail
            go_roundw
            case rel => exact ⟨k + 1, by omega, by omega, by go_num, by rw [HE.out]; exact hO.out, hN.out, hM.out, hB.out, hZ.out⟩
            case measure => simp [intOf]; omega
        · obtain rfl : k = 31 := by omega
          have hO2 := hO.out
          rw [HAL.out] at hO2
          have HO2 := Lib.hid hO2
          clear hO hO2
          go_wp2_with fail
          go_ret2
          exact ⟨_, rfl, HSB.out ▸ HO2.out, HSB.out ▸ hB.out⟩
    · clear HNM
      go_wp2_with fail
      go_loopw [4, 9] (fun out i wr => ∃ k : Nat, 1 ≤ k ∧ k ≤ 63 ∧ i = .int .i64 k ∧ Hid (Own wr B out (arcK t k)) ∧ Hid (out.ownBlock ≠ some G) ∧ Hid (Marks wr G (fun j => false || decide (j ∈ t.sets))) ∧ Hid (Below B w wr) ∧ Hid (B + 1 ≤ wr.heap.size)) (fun _ i _ => 63 - (intOf i).toNat)
      case atStart =>
        refine ⟨1, Nat.le_refl _, by omega, rfl, ?_, ?_, HM5.out, HB5.out, ?_⟩
        · rw [arcK_one]; exact HO5.out
        · intro h; have e : B = G := by simpa [Value.ownBlock] using h
          have := HBG.out; omega
        · have := HO5.out; have := HBG.out; have := HM5.out.lt; rw [Hid]; omega
      case round =>
        obtain ⟨k, hk1, hk, rfl, hO, hN, hM, hB⟩ := hrel
        obtain ⟨hB, hZ⟩ := hB
        by_cases hlt : k < 63
        · have hc := hM.out.cell (j := k) (by omega)
          have hkl := arcK_len t k
          by_cases hin : k ∈ t.sets
          · rw [show (false || decide (k ∈ t.sets)) = true by simp [hin]] at hc
            obtain ⟨v', w', hap, hown, hgr, hob⟩ := apI_run9 hO.out (by have := hZ.out; omega) (by omega) (k : Int)
            have HE := Lib.hid (arcK_yes t k (by omega) hin)
            have HOW := Lib.hid hown
            have HGR := Lib.hid hgr
            have HOB := Lib.hid hob
            clear hown hgr hob
            go_wp2_with fail
            go_roundw
            case rel =>
              refine ⟨k + 1, by omega, by omega, by go_num, ?_, ?_, ?_, ?_, ?_⟩
              · rw [HE.out]; exact HOW.out
              · rcases HOB.out with h | h
                · rw [Hid, h]; exact hN.out
                · rw [Hid, h]; intro h2; injection h2 with h2; have := hM.out.lt; omega
              · refine (hM.out.same (Below.heap_alloc _ _ G hM.out.lt)).same (HGR.out.block G (by have := hM.out.lt; simp; omega) fun h => hN.out h.symm)
              · exact apI_below hO.out HGR.out (Nat.le_refl _) hB.out (by have := hZ.out; omega)
              · have h1 := HGR.out.size; have h2 := hZ.out; simp at h1; rw [Hid]; omega
            case measure => simp [intOf]; omega
          · rw [show (false || decide (k ∈ t.sets)) = false by simp [hin]] at hc
            have HE := Lib.hid (arcK_no t k hin)
            go_wp2_with fail
            go_roundw
            case rel => exact ⟨k + 1, by omega, by omega, by go_num, by rw [HE.out]; exact hO.out, hN.out, hM.out, hB.out, hZ.out⟩
            case measure => simp [intOf]; omega
        · obtain rfl : k = 63 := by omega
          have hO2 := hO.out
          rw [HAL.out] at hO2
          have HO2 := Lib.hid hO2
          clear hO hO2
          go_wp2_with fail
          go_ret2
          exact ⟨_, rfl, HSB.out ▸ HO2.out, HSB.out ▸ hB.out⟩
    · clear HNM
      go_wp2_with fail
      go_loopw [4, 9] (fun out i wr => ∃ k : Nat, 1 ≤ k ∧ k ≤ 127 ∧ i = .int .i64 k ∧ Hid (Own wr B out (arcK t k)) ∧ Hid (out.ownBlock ≠ some G) ∧ Hid (Marks wr G (fun j => false || decide (j ∈ t.sets))) ∧ Hid (Below B w wr) ∧ Hid (B + 1 ≤ wr.heap.size)) (fun _ i _ => 127 - (intOf i).toNat)
      case atStart =>
        refine ⟨1, Nat.le_refl _, by omega, rfl, ?_, ?_, HM5.out, HB5.out, ?_⟩
        · rw [arcK_one]; exact HO5.out
        · intro h; have e : B = G := by simpa [Value.ownBlock] using h
          have := HBG.out; omega
        · have := HO5.out; have := HBG.out; have := HM5.out.lt; rw [Hid]; omega
      case round =>
        obtain ⟨k, hk1, hk, rfl, hO, hN, hM, hB⟩ := hrel
        obtain ⟨hB, hZ⟩ := hB
        by_cases hlt : k < 127
        · have hc := hM.out.cell (j := k) (by omega)
          have hkl := arcK_len t k
          by_cases hin : k ∈ t.sets
          · rw [show (false || decide (k ∈ t.sets)) = true by simp [hin]] at hc
            obtain ⟨v', w', hap, hown, hgr, hob⟩ := apI_run9 hO.out (by have := hZ.out; omega) (by omega) (k : Int)
            have HE := Lib.hid (arcK_yes t k (by omega) hin)
            have HOW := Lib.hid hown
            have HGR := Lib.hid hgr
            have HOB := Lib.hid hob
            clear hown hgr hob
            go_wp2_with fail
            go_roundw
            case rel =>
              refine ⟨k + 1, by omega, by omega, by go_num, ?_, ?_, ?_, ?_, ?_⟩
              · rw [HE.out]; exact HOW.out
              · rcases HOB.out with h | h
                · rw [Hid, h]; exact hN.out
                · rw [Hid, h]; intro h2; injection h2 with h2; have := hM.out.lt; omega
              · refine (hM.out.same (Below.heap_alloc _ _ G hM.out.lt)).same (HGR.out.block G (by have := hM.out.lt; simp; omega) fun h => hN.out h.symm)
              · exact apI_below hO.out HGR.out (Nat.le_refl _) hB.out (by have := hZ.out; omega)
              · have h1 := HGR.out.size; have h2 := hZ.out; simp at h1; rw [Hid]; omega
            case measure => simp [intOf]; omega
          · rw [show (false || decide (k ∈ t.sets)) = false by simp [hin]] at hc
            have HE := Lib.hid (arcK_no t k hin)
            go_wp2_with fail
            go_roundw
            case rel => exact ⟨k + 1, by omega, by omega, by go_num, by rw [HE.out]; exact hO.out, hN.out, hM.out, hB.out, hZ.out⟩
            case measure => simp [intOf]; omega
        · obtain rfl : k = 127 := by omega
          have hO2 := hO.out
          rw [HAL.out] at hO2
          have HO2 := Lib.hid hO2
          clear hO hO2
          go_wp2_with fail
          go_ret2
          exact ⟨_, rfl, HSB.out ▸ HO2.out, HSB.out ▸ hB.out⟩

theorem arcsS_law (H : Nat) (s : ByteArray) (W : World) (_hH : H ≤ W.heap.size) (_hn : s.size ≤ 1048576) : Calls Tryz.prog 6 #[.string s] W fun e w' => ∃ v, e = .returned (.tuple #[v, .bool (tringB s.data.toList)]) ∧ Own w' W.heap.size v (tarcR s.data.toList) ∧ Below W.heap.size W w' := by
  unfold tringB tarcR
  rcases h : ringT s.data.toList with _ | t
  · exact arcsS_no s W h
  · exact arcsS_yes s W t h
theorem arcsI_law (H : Nat) (s : ByteArray) (W : World) (_hH : H ≤ W.heap.size) (hn : s.size ≤ 1048576) (hand : Hand W) : Calls Tryz.prog 5 #[.string s] W fun e w' => ∃ v, e = .returned (.tuple #[v, .bool (tringB s.data.toList)]) ∧ Own w' W.heap.size v (tarcR s.data.toList) ∧ Below W.heap.size W w' := by
  unfold tringB tarcR
  rcases h : ringT s.data.toList with _ | t
  · exact arcsI_no s W hand hn h
  · exact arcsI_yes s W hand hn t h
end Go.Proofs.YthpomflpnmddoaaGreatDoor
