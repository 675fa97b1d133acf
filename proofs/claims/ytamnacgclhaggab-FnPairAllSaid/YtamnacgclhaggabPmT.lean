/- PairMany of the model and of the program. -/
import Derived.Test.YtamnacgclhaggabSeq
import Derived.Test.YtamnacgclhaggabMA
import Derived.RangeFuncBox
namespace Go.Proofs.Ytamnacgclhaggab
open Go.ChangeShapes Go.WideShapes Go.ChangeAt Go.RowKit Go.Shelf

attribute [local go_sem] Oper.semAt_some

def pmB (l : List Int) : Bool := ringB l && decide (4 ≤ l.length)
def pmR (l : List Int) : Int := if pmB l then ((allP l).length : Nat) else 0
theorem pm_yes {l : List Int} (hr : Ring l) (h4 : 4 ≤ l.length) : pmB l = true ∧ pmR l = ((allP l).length : Nat) := by
  have e : pmB l = true := by simp [pmB, ring_yes hr, h4]
  exact ⟨e, by rw [pmR, e]; simp⟩
theorem pm_no {l : List Int} (h : ¬ (Ring l ∧ 4 ≤ l.length)) : pmB l = false ∧ pmR l = 0 := by
  have e : pmB l = false := by
    rw [Bool.eq_false_iff]
    intro hh
    simp only [pmB, Bool.and_eq_true, decide_eq_true_eq] at hh
    exact h ⟨by simpa [ringB] using hh.1, hh.2⟩
  exact ⟨e, by rw [pmR, e]; simp⟩

theorem own_blk {β : Type} (b : Nat) (f : β → Array Value) (t : TypeId) : Go.Own (fun (s : β) (W : World) => W.heap[b]? = some (.cells (f s) t (0, 0))) := by
  intro s A B row hs hg hr
  refine (hg.block b (Array.getElem?_eq_some_iff.1 hs).1 (fun e => ?_)).trans hs
  obtain ⟨o, ho, hcl⟩ := hr b e.symm
  rw [hs] at ho
  injection ho with e1
  subst e1
  simp [Obj.isCells] at hcl

set_option maxRecDepth 100000 in
set_option maxHeartbeats 4000000 in
theorem pmI_any (A : Option Addr) (n c H : Nat) (l : List Int) (w : World) (h : Rd w H A n l) (hH : H ≤ w.heap.size) (hn : n ≤ 1048576) (hnc : n ≤ c) (hcm : c ≤ 9223372036854775807) :
    Calls Try.prog 16 #[.slice A n c] w fun e w' => e = .returned (.tuple #[.int .i64 (pmR l), .bool (pmB l)]) ∧ Below w.heap.size w w' := by
  have HL := Lib.hid h.len
  have HR := Lib.hid (readR_any A n c H l w h hH hn hnc hcm)
  have H7 := Lib.hid (ringP_length l)
  clear h
  by_cases hr : Ring l ∧ 4 ≤ l.length
  rotate_left
  · have hv := pm_no hr
    rw [hv.1, hv.2]
    by_cases hr1 : Ring l
    · have h4 : ¬ 4 ≤ n := by rw [← HL.out]; exact fun hh => hr ⟨hr1, hh⟩
      rw [ring_yes hr1] at HR
      generalize ringP l = P at *
      clear hr hr1 hv
      go_enter Try.func16, Try.ntmps16
      go_wp2_with fail
      refine HR.out.mono ?_
      rintro e W1 ⟨rfl, hb1⟩
      have HA := Lib.hid (new_ring W1)
      have hs1 := hb1.size
      go_wp2_with (refine store_ring rfl _ _ rfl W1.heap.size zero7 P rfl H7.out rfl rfl HA ?_; intro w2 HA2 hg2 hs2)
      go_ret2
      exact ⟨rfl, (hb1.alloc hs1 _).grown hg2 (by simp; omega) (by simp; omega)⟩
    · rw [ring_no hr1] at HR
      generalize ringP l = P at *
      clear hr hr1 hv
      go_enter Try.func16, Try.ntmps16
      go_wp2_with fail
      refine HR.out.mono ?_
      rintro e W1 ⟨rfl, hb1⟩
      have HA := Lib.hid (new_ring W1)
      have hs1 := hb1.size
      go_wp2_with (refine store_ring rfl _ _ rfl W1.heap.size zero7 P rfl H7.out rfl rfl HA ?_; intro w2 HA2 hg2 hs2)
      go_ret2
      exact ⟨rfl, (hb1.alloc hs1 _).grown hg2 (by simp; omega) (by simp; omega)⟩
  obtain ⟨hr, h4⟩ := hr
  have hv := pm_yes hr h4
  rw [hv.1, hv.2]
  rw [ring_yes hr, show ringP l = padR l from by rw [ringP, if_pos hr]] at HR
  rw [show ringP l = padR l from by rw [ringP, if_pos hr]] at H7
  have HT := Lib.hid hr.1
  rw [HL.out] at h4
  have HPT := Lib.hid (fun V => partings_any l V HT.out)
  unfold agp at HPT
  obtain ⟨Q, hQ⟩ : ∃ Q, Q = allP l := ⟨_, rfl⟩
  rw [← hQ]
  have HQE := Lib.hid hQ.symm
  have HQ := Lib.hid (show Q.length ≤ 2401 by rw [hQ]; exact allP_len l HT.out.2.1)
  clear hr hv hQ
  refine callsIn_wide.1 (callsIn_of_wp_marks (n := 3) Try.func16 rfl trivial ?_ rfl)
  refine wpIn_wide.2 ?_
  simp only [Try.ntmps16, List.size_toArray, List.length_cons, List.length_nil, Nat.reduceAdd, Nat.reduceSub, Array.replicate_succ, Array.replicate_zero, List.push_toArray, List.append_toArray, List.nil_append, List.cons_append]
  go_wp2_with fail
  refine HR.out.mono ?_
  rintro e W1 ⟨rfl, hb1⟩
  have HA := Lib.hid (new_ring W1)
  have hs1 := hb1.size
  have HB1 := Lib.hid hb1
  clear hb1 HR
  go_wp2_with (first
    | (refine store_ring rfl _ _ rfl W1.heap.size zero7 (padR l) rfl H7.out rfl rfl HA ?_; intro w2 HA2 hg2 hs2; clear hs2; have hb2 : Hid (Below W1.heap.size W1 w2) := Lib.hid (((Below.refl _ _).alloc (Nat.le_refl _) _).grown hg2 (by simp) (by simp)); have HA3 := Lib.hid (HA2.out.alloc (.cells #[.int .i64 0] 3)))
    | (refine load_ring rfl _ rfl W1.heap.size (padR l) H7.out rfl HA3 ?_))
  have hs2 := hb2.out.size
  have HB2 := Lib.hid (HB1.out.trans (hb2.out.mono hs1))
  have hs02 := HB2.out.size
  have HBX := Lib.hid (HB2.out.alloc hs02 (.cells #[.int .i64 0] 3))
  have HC0 : Hid ((w2.alloc (.cells #[.int .i64 0] 3)).heap[w2.heap.size]? = some (.cells #[.int .i64 0] 3 (0, 0))) := heap_alloc_new w2 _
  have HSZ : Hid ((w2.alloc (.cells #[.int .i64 0] 3)).heap.size = w2.heap.size + 1) := by rw [Hid]; simp
  generalize hbm : w2.heap.size = bm at *
  generalize hW : w2.alloc (.cells #[.int .i64 0] 3) = W3 at *
  generalize hrb0 : W1.heap.size = r0 at *
  clear hW hbm hrb0 HA HA2 HA3 hg2 hb2 HB1 HB2
  refine (HPT.out W3).mono ?_
  rintro e w4 ⟨pb, v, rfl, hp1, hp2, hpc, hrow, harr, hb4⟩
  have HB4 := Lib.hid (HBX.out.trans (hb4.mono (by have := HSZ.out; omega)))
  have hs4 := hb4.size
  have h34 := HSZ.out
  have HC4 : Hid (w4.heap[bm]? = some (.cells #[.int .i64 0] 3 (0, 0))) := (hb4.block bm (by omega)).trans HC0.out
  have HST := Lib.hid (fun m => prt_stops m pb W3.heap.size W3.heap.size bm (bm + 1) w4.heap.size l HT.out v w4 (Nat.le_refl _) hp2 (by omega) (by omega) (by omega) hpc hrow (fun i hi => by have := hrow.lt i hi; omega) harr)
  rw [HQE.out] at HST
  have hbw : w.heap.size ≤ bm := by have := HBX.out.size; omega
  clear hrow harr hpc hb4 HC0 HBX HPT
  rw [h34] at HST hp1 hs4
  clear hp1 HSZ
  go_wp2
  clear h34
  refine (wpIn_wide (n := 3)).1 (wpIn_rangeFunc_ownF rfl (by omega) (gf := 104) (lb := #[.pointer (some ⟨pb, 0, none⟩), .pointer (some ⟨bm + 1, 0, none⟩)]) rfl trivial (enters_of Try.func104 (by kernel_rfl) rfl)
    (HST.out _) kpX_t (kpX_b (Nat.le_refl _)) (Below.refl _ _) (fun _ => rfl)
    (fun pre W => W.heap[bm]? = some (.cells #[.int .i64 ((pre.length : Nat) : Int)] 3 (0, 0)) ∧ Below w.heap.size w W)
    (fun _ _ _ => False)
    (OwnFrom.and (Own.from (own_blk bm (fun pre : List Par4 => #[.int .i64 ((pre.length : Nat) : Int)]) 3) _) (ownFrom_below (Nat.le_refl _) HB4.out.size))
    (fun _ _ _ _ _ hs _ _ => hs)
    ⟨HC4.out, HB4.out⟩
    (fun x => { tmps := #[.slice A n c, undef, .int .i64 0, .bool false, .pointer (some ⟨r0, 0, none⟩), .bool true, .pointer (some ⟨bm, 0, none⟩), .tuple #[.agg (ints (padR l)).toArray, .bool true], .slice A n c, .tuple #[.agg (ints (padR l)).toArray, .bool true], .agg (ints (padR l)).toArray, .bool true, .bool true, .bool false, .bool false, .slice A n c, .int .i64 (n : Int), .bool (decide ((n : Int) < 4)), .bool (decide ((n : Int) < 4)), .agg (ints (padR l)).toArray, .func (.func 104) #[] #[.pointer (some ⟨pb, 0, none⟩), .pointer (some ⟨bm + 1, 0, none⟩)], .agg (ints x.1).toArray, undef, undef, undef], defers := [] }) ?assign ?body ?done ?stop)
  case assign =>
    intro lq x V K hK
    gi_wp2
    first
      | exact hK
      | (simpa using hK)
  case body =>
    rintro lq pre x V ⟨hblk, hB⟩ hlen
    have hwr : IntKind.i64.wrap (((pre.length : Nat) : Int) + 1) = ((pre.length : Nat) : Int) + 1 := IntWalk.i64_in _ (by omega)
    have hc : V.cell? ⟨bm, 0, none⟩ = some (.int .i64 ((pre.length : Nat) : Int)) := by rw [cell_of_row V bm 0 _ _ (0, 0) hblk]; rfl
    have hf : V.frozen? ⟨bm, 0, none⟩ = false := frozen_of_row V bm 0 _ _ hblk
    gi_wp2
    refine ⟨KeepsOthers.setCell _ _ _, ⟨by simp [World.setCell], fun k _ hx => Below.heap_setCell _ _ _ k (by show k ≠ bm; omega), fun k P e => Below.heap_setCell _ _ _ k (by
      show k ≠ bm
      intro ek
      subst ek
      rw [hblk] at e
      cases e)⟩, ?_, hB.setCell (p := ⟨bm, 0, none⟩) hbw _⟩
    rw [List.length_append]
    exact heap_setCell_same V bm 0 _ _ _ hblk
  case done =>
    rintro D ys V hD hys ⟨hblk, hB⟩ hK
    have hyl : ys.length = Q.length := by rw [← hys, List.length_map]
    have hc : V.cell? ⟨bm, 0, none⟩ = some (.int .i64 ((Q.length : Nat) : Int)) := by rw [cell_of_row V bm 0 _ _ (0, 0) hblk, hyl]; rfl
    go_wp2
    refine ⟨by simp, .inl ⟨_, _, rfl, run_takeDeferred hK, ?_⟩⟩
    exact ⟨_, results_tmp2 rfl _ _ _, rfl, hB.trans (belowK_b (w := w) (Nat.le_refl _) V D _ _ (Nat.le_trans HB4.out.size hD) hK rfl rfl)⟩
  case stop =>
    rintro D c' pre V _ _ hh _
    exact hh.elim
end Go.Proofs.Ytamnacgclhaggab
