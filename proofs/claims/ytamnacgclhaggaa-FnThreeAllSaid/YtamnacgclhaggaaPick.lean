/- Rows picked out of one slice of slices into another one, by append. -/
import Derived.Test.YtamnacgclhaggaaCC
import Derived.Maps.AppendAt
namespace Go.Proofs.Ytamnacgclhaggaa
open Go.ChangeShapes Go.WideShapes Go.ChangeAt Go.RowKit

def pickTo (p : List Int → Bool) (E : List (List Int)) (k : Nat) : List (List Int) := (E.take k).filter p
theorem pickTo_len (p : List Int → Bool) (E : List (List Int)) (k : Nat) : (pickTo p E k).length ≤ k := by
  have := List.length_filter_le p (E.take k)
  simp only [List.length_take] at this
  unfold pickTo; omega
theorem pickTo_yes {p : List Int → Bool} {E : List (List Int)} {k : Nat} (hk : k < E.length) (h : p (rowK E k) = true) : pickTo p E k ++ [rowK E k] = pickTo p E (k + 1) := by
  have e : rowK E k = E[k] := by simp [rowK, List.getD, hk]
  rw [e] at h ⊢
  unfold pickTo
  rw [List.take_succ_eq_append_getElem hk, List.filter_append]
  simp [h]
theorem pickTo_no {p : List Int → Bool} {E : List (List Int)} {k : Nat} (hk : k < E.length) (h : p (rowK E k) = false) : pickTo p E k = pickTo p E (k + 1) := by
  have e : rowK E k = E[k] := by simp [rowK, List.getD, hk]
  rw [e] at h
  unfold pickTo
  rw [List.take_succ_eq_append_getElem hk, List.filter_append]
  simp [h]
theorem pickTo_full (p : List Int → Bool) (E : List (List Int)) : pickTo p E E.length = E.filter p := by simp [pickTo]

/-- Two values' blocks are not the same one. -/
def Apart (u v : Value) : Prop := ∀ i, u.ownBlock = some i → some i ≠ v.ownBlock
theorem GrowS.blk {w : World} {B : Nat} {v : Value} {L : List (List Int)} (h : GrowS w B v L) : ∀ i, v.ownBlock = some i → B ≤ i ∧ i < w.heap.size := by
  obtain ⟨xs, h1, _⟩ := h
  exact h1.lt
theorem GrowS.far {w w5 : World} {B D n : Nat} {v ve : Value} {E : List (List Int)} {xs : List Value} {o : Obj} (h : GrowS w B ve E) (ho : w.ownsRow D 23 1 v n xs) (hg : (w.alloc o).grownBy w5 v.ownBlock) (hap : Apart ve v) : GrowS w5 B ve E := by
  obtain ⟨ys, h1, h2⟩ := h
  have key : ∀ i, i < w.heap.size → some i ≠ v.ownBlock → w5.heap[i]? = w.heap[i]? := fun i hi hne => by
    rw [hg.block i (by simp; omega) hne, Below.heap_alloc w o i hi]
  refine ⟨ys, ⟨h1.1, ?_⟩, fun k hk => ?_⟩
  · rcases h1.2 with e | ⟨g, cap, cur, rfl, hb, hgg, rest⟩
    · exact .inl e
    · exact .inr ⟨g, cap, cur, rfl, hb, (key g (Array.getElem?_eq_some_iff.1 hgg).1 (hap g rfl)).trans hgg, rest⟩
  · obtain ⟨vk, h3, h4⟩ := h2 k hk
    exact ⟨vk, h3, h4.same fun i hi => key i (h4.1.lt i hi).2 (h4.1.apart ho i hi)⟩
theorem Apart.next {w : World} {B : Nat} {u v v' : Value} {E : List (List Int)} (h : Apart u v) (hu : GrowS w B u E) (hl : v'.ownBlock = v.ownBlock ∨ v'.ownBlock = some (w.heap.size + 1)) : Apart u v' := fun i hi => by
  rcases hl with e | e
  · rw [e]; exact h i hi
  · rw [e]
    have := (hu.blk i hi).2
    intro e2
    injection e2 with e2
    omega

theorem sumTo_small' (L : List (List Int)) (h : ∀ l ∈ L, l.length ≤ 7) : ∀ k, k ≤ L.length → sumTo L k ≤ 7 * k
  | 0, _ => by simp [sumTo]
  | k + 1, hk => by
    have h1 := sumTo_small' L h k (by omega)
    have h2 := h _ (rowK_mem (show k < L.length by omega))
    simp only [sumTo]; omega
theorem tot_small' (L : List (List Int)) (h : ∀ l ∈ L, l.length ≤ 7) (hl : L.length ≤ 1000) : tot L ≤ 1048576 := by
  have := sumTo_small' L h L.length (Nat.le_refl _)
  unfold tot; omega
theorem own_rowLess {w : World} {B B' : Nat} {e : TypeId} {m n : Nat} {v : Value} {xs : List Value} (h : w.ownsRow B e m v n xs) (hB : B' ≤ B) : w.ownsRow B' e m v n xs := by
  refine ⟨h.1, ?_⟩
  rcases h.2 with e | ⟨g, cap, cur, e, hb, rest⟩
  · exact .inl e
  · exact .inr ⟨g, cap, cur, e, by omega, rest⟩

def alR (l : List Int) : List (List Int) := if Ring l then sharedL l.length [l] else []
theorem sharedL_tot (n : Nat) (R : List (List Int)) (h : n ≤ 7) : tot (sharedL n R) ≤ 1048576 := by
  refine tot_small' _ (fun l hl => ?_) ?_
  · have := every_row3 n l (List.mem_filter.1 hl).1
    omega
  · have h1 := List.length_filter_le (fun t => R.all fun l => has3 l t) (everyL n)
    have h2 := everyL_len n h
    unfold sharedL; omega
theorem alR_tot (l : List Int) : tot (alR l) ≤ 1048576 := by
  unfold alR
  split
  · rename_i h; exact sharedL_tot _ _ h.1.2.1
  · simp [tot, sumTo]

set_option maxRecDepth 10000 in
set_option maxHeartbeats 2000000 in
theorem alS_any (A : Option Addr) (n c H : Nat) (l : List Int) (w : World) (h : Rd w H A n l) (hH : H ≤ w.heap.size) (hn : n ≤ 1048576) :
    Calls Try.prog 14 #[.slice A n c] w fun e w' => ∃ v, e = .returned (.tuple #[v, .bool (ringB l)]) ∧ (∃ A c, v = .slice A (alR l).length c ∧ RdS w' w'.heap.size A (alR l).length (alR l)) ∧ Below w.heap.size w w' := by
  obtain ⟨i0, hi, hz0, hz1, hz2⟩ := info_parts row_info
  have HL := Lib.hid h.len
  have HRI := Lib.hid (fun W hW => ringS_any A n c H l W hW hn)
  have hg0 : Hid (GrowS (w.alloc (.cells #[] 23)) w.heap.size (.slice (some ⟨w.heap.size, 0, none⟩) 0 0) []) := GrowS.empty w (Nat.le_refl _)
  have hb0 : Below w.heap.size w (w.alloc (.cells #[] 23)) := (Below.refl _ _).alloc (Nat.le_refl _) _
  have hr0 := Lib.hid (h.below (hb0.mono hH))
  go_enter Try.func14, Try.ntmps14
  go_wp2_with fail
  generalize w.alloc (.cells #[] 23) = W0 at *
  refine (HRI.out W0 hr0.out).mono ?_
  rintro e w' ⟨rfl, rfl⟩
  clear HRI h
  by_cases hr : Ring l
  · have h3 := hr.1.1
    have h7 := hr.1.2.1
    rw [HL.out] at h3 h7
    have HRB := Lib.hid (ring_yes hr)
    have HAL : Hid (alR l = (everyL n).filter (has3 l)) := by
      rw [Hid, alR, if_pos hr, sharedL, HL.out]
      simp
    have HMEM := Lib.hid (fun t (ht : Thr (n : Int) t) => thr_mem hr.1 (by rw [HL.out]; exact ht))
    have HEL := everyL_len n h7
    rw [ring_yes hr]
    clear hr
    go_wp2_with fail
    refine (l2Every_any n W0 h7).mono ?_
    rintro e w1 ⟨ve, rfl, hge, hb1⟩
    obtain ⟨Ae, ce, rfl, _⟩ := hge.slice
    have HG1 := Lib.hid (hg0.out.below hb1 (Nat.le_refl _))
    have HE1 := Lib.hid (show GrowS w1 w.heap.size _ (everyL n) from by
      obtain ⟨xs, p1, p2⟩ := hge
      refine ⟨xs, own_rowLess p1 hb0.size, fun k hk => ?_⟩
      obtain ⟨vk, q1, q2⟩ := p2 k hk
      exact ⟨vk, q1, q2.less hb0.size⟩)
    have HAP : Hid (Apart (.slice Ae (everyL n).length ce) (.slice (some ⟨w.heap.size, 0, none⟩) 0 0)) := fun i hi e => by
      have h1 := (hge.blk i hi).1
      have h2 := (hg0.out.blk w.heap.size rfl).2
      simp [Value.ownBlock] at e
      omega
    have HR1 := Lib.hid (hr0.out.below (hb1.mono (by have := hb0.size; omega)))
    have HB1 := Lib.hid (hb0.trans (hb1.mono hb0.size))
    clear hge hb1 hg0 hr0 hb0
    obtain ⟨z, hz⟩ : ∃ z, z = (everyL n).length := ⟨_, rfl⟩
    have HZ := Lib.hid hz
    rw [← hz] at HE1 HAP HEL ⊢
    clear hz
    generalize hB : w.heap.size = B at *
    have HB := Lib.hid hB
    clear hB
    go_wp2_with fail
    go_loopw [4, 6] (fun v i wr => ∃ k : Nat, k ≤ z ∧ i = .int .i64 k ∧ Hid (GrowS wr B v (pickTo (has3 l) (everyL n) k)) ∧ Hid (GrowS wr B (.slice Ae z ce) (everyL n)) ∧ Hid (Apart (.slice Ae z ce) v) ∧ Hid (Rd wr H A n l) ∧ Below B w wr) (fun _ i _ => z - (intOf i).toNat)
    case atStart => exact ⟨0, Nat.zero_le _, rfl, HG1, HE1, HAP, HR1, HB1.out⟩
    case round =>
      obtain ⟨k, hk, rfl, hgs, hge, hap, hrd, hbl⟩ := hrel
      clear HG1 HE1 HAP HR1 HB1
      have HBL := Lib.hid hbl
      have hBw : B ≤ wr.heap.size := by rw [← HB.out]; exact hbl.size
      clear hbl
      by_cases hlt : k < z
      · have hkl : k < (everyL n).length := by rw [← HZ.out]; exact hlt
        obtain ⟨g, c', A', d', e0, hc, hrow⟩ := hge.out.row hkl
        rw [← HZ.out] at e0
        injection e0 with e1 _ e3
        subst e3
        subst e1
        obtain ⟨x, y, zz, e, hx, hy, hzz⟩ := HMEM.out _ ((every_thr n _).1 (rowK_mem hkl))
        have HHAS := Lib.hid (l2Has_any A n c H l A' d' wr.heap.size x y zz wr hrd.out (by have := hrow.1.rd.2; rw [e] at this; exact this) (by omega) h7 hx hy hzz)
        have HYES := Lib.hid (pickTo_yes (p := has3 l) hkl)
        have HNO := Lib.hid (pickTo_no (p := has3 l) hkl)
        have HROW := Lib.hid hrow
        have hpl := pickTo_len (has3 l) (everyL n) k
        rw [e] at HROW HYES HNO hc
        clear hkl hrow hx hy hzz e
        change wr.cell? ⟨g, k, none⟩ = some (.slice A' 3 d') at hc
        cases hh : has3 l [x, y, zz] with
        | true =>
          have HST := Lib.hid (HYES.out hh)
          rw [hh] at HHAS
          clear HYES HNO hh
          go_wp2_with fail
          refine HHAS.out.mono ?_
          rintro e w2 ⟨rfl, p, rfl⟩
          have hc2 : (wr.drewN p).cell? ⟨g, k, none⟩ = some (.slice A' 3 d') := hc
          have HG2 := Lib.hid (hgs.out.drewN p)
          have HE2 := Lib.hid (hge.out.drewN p)
          have HR2 := Lib.hid (hrd.out.drewN p)
          have HV2 : Hid (RowV (wr.drewN p) B (.slice A' 3 d') [x, y, zz]) := Lib.hid (HROW.out.same fun _ _ => rfl)
          have HB2 := Lib.hid (below_drewN HBL.out p)
          have hBw2 : B ≤ (wr.drewN p).heap.size := hBw
          clear HHAS HROW hgs hge hrd HBL hBw hc
          generalize wr.drewN p = w2 at *
          obtain ⟨xs, hx1, hx2⟩ := HG2.out
          have HX1 := Lib.hid hx1
          have HX2 := Lib.hid hx2
          clear hx1 hx2 HG2
          go_wp2_with (at_builtin; refine wpList_append_own_at _ rfl _ _ 25 rfl B 23 i0 (.slice none 0 0) 1 24 Try.underlying25 hi hz0 hz1 hz2 rfl (by decide) _ _ _ rfl (HX1.out.alloc _) ⟨w2.heap.size, 0, none⟩ 1 1 [.slice A' 3 d'] rfl rfl (one_cell w2 _ _) (by simp [Value.oneCell']) (by unfold maxLen; omega) (by omega) (by simp; omega) ?_)
          intro v' w5 hown5 hgr5 _ hat5
          have HG5 := Lib.hid (grow_row rfl HX1.out HX2.out HV2.out _ hown5 hgr5)
          rw [HST.out] at HG5
          have HE5 := Lib.hid (HE2.out.far HX1.out hgr5 hap.out)
          have HAP5 := Lib.hid (hap.out.next HE2.out hat5)
          have HB5 := Lib.hid ((HB2.out.alloc hBw2 _).grown hgr5 (by simp; omega) (fun i hi => (HX1.out.lt i hi).1))
          have HR5 := Lib.hid (HR2.out.below (((Below.refl H w2).alloc (by omega) _).grown hgr5 (by simp; omega) (fun i hi => by have := (HX1.out.lt i hi).1; omega)))
          clear hown5 hgr5 hat5
          go_wp2
          go_roundw
          case rel => exact ⟨k + 1, by omega, by go_num, HG5, HE5, HAP5, HR5, HB5.out⟩
          case measure => simp [intOf]; omega
        | false =>
          have HST := Lib.hid (HNO.out hh)
          rw [hh] at HHAS
          clear HYES HNO hh
          go_wp2_with fail
          refine HHAS.out.mono ?_
          rintro e w2 ⟨rfl, p, rfl⟩
          have HG2 := Lib.hid (hgs.out.drewN p)
          rw [HST.out] at HG2
          go_wp2
          go_roundw
          case rel => exact ⟨k + 1, by omega, by go_num, HG2, Lib.hid (hge.out.drewN p), hap, Lib.hid (hrd.out.drewN p), below_drewN HBL.out p⟩
          case measure => simp [intOf]; omega
      · obtain rfl : k = z := by omega
        have hgs' := hgs.out
        rw [HZ.out, pickTo_full] at hgs'
        obtain ⟨A', d', e', _⟩ := hgs'.slice
        subst e'
        have HGS := Lib.hid hgs'
        clear hgs hgs'
        go_wp2
        go_ret2
        refine ⟨.slice A' ((everyL n).filter (has3 l)).length d', by rw [HRB.out]; rfl, ?_, by rw [HB.out]; exact HBL.out⟩
        rw [HAL.out]
        exact ⟨A', d', rfl, HGS.out.rd.2⟩
  · have HRB := Lib.hid (ring_no hr)
    have HAL : Hid (alR l = []) := by rw [Hid, alR, if_neg hr]
    rw [ring_no hr]
    clear hr
    go_wp2_with fail
    go_ret2
    refine ⟨.slice (some ⟨w.heap.size, 0, none⟩) 0 0, by rw [HRB.out]; rfl, ?_, hb0⟩
    rw [HAL.out]
    exact ⟨_, _, rfl, RdS.nil⟩

theorem RowN.one (w : World) {B m : Nat} {t : TypeId} (hB : B ≤ w.heap.size) (P : List Int) (hP : P.length = m) : RowN (w.alloc (.cells (ints P).toArray t)) B t m (.slice (some ⟨w.heap.size, 0, none⟩) 1 1) [P] := by
  refine ⟨fun l hl => by rw [List.mem_singleton.1 hl, hP], ?_⟩
  have := World.ownsRow_lit (base := B) (e := t) (size := m) w (ints P).toArray 1 hB (by decide) (by simp [hP])
  simpa using this

set_option maxRecDepth 10000 in
set_option maxHeartbeats 2000000 in
theorem alI_any (A : Option Addr) (n c H : Nat) (l : List Int) (w : World) (h : Rd w H A n l) (hH : H ≤ w.heap.size) (hn : n ≤ 1048576) (hnc : n ≤ c) (hcm : c ≤ 9223372036854775807) :
    Calls Try.prog 13 #[.slice A n c] w fun e w' => ∃ v, e = .returned (.tuple #[v, .bool (ringB l)]) ∧ OwnS w' w.heap.size w'.heap.size v (alR l) ∧ Below w.heap.size w w' := by
  have HL := Lib.hid h.len
  have HR := Lib.hid (readR_any A n c H l w h hH hn hnc hcm)
  have H7 := Lib.hid (ringP_length l)
  obtain ⟨P, hP⟩ : ∃ P, P = ringP l := ⟨_, rfl⟩
  rw [← hP] at HR H7
  have HP := Lib.hid hP
  clear h hP
  go_enter Try.func13, Try.ntmps13
  go_wp2_with fail
  refine HR.out.mono ?_
  rintro e W1 ⟨rfl, hb1⟩
  have HA := Lib.hid (new_ring W1)
  have HB1 := Lib.hid hb1
  have hs1 := hb1.size
  clear HR hb1
  by_cases hr : Ring l
  · have h3 := hr.1.1
    have h7 := hr.1.2.1
    rw [HL.out] at h3 h7
    have HRB := Lib.hid (ring_yes hr)
    have HAL : Hid (alR l = sharedL n [l]) := by rw [Hid, alR, if_pos hr, HL.out]
    have hPP : P = padR l := by rw [HP.out, ringP, if_pos hr]
    have HIS : Hid (∀ r ∈ [l], IsR n r) := fun r hr' => by
      rw [List.mem_singleton.1 hr']
      exact ⟨HL.out, hr.1.pos, fun x hx0 hxn => hr.1.has hx0 (by rw [HL.out]; exact hxn)⟩
    have HST := Lib.hid (sharedL_tot n [l] h7)
    have HSLEN : Hid ((sharedL n [l]).length ≤ 1000) := by
      have h1 := List.length_filter_le (fun t => [l].all fun l => has3 l t) (everyL n)
      have h2 := everyL_len n h7
      simp only [Hid, sharedL]; omega
    rw [ring_yes hr]
    clear hr
    obtain ⟨a0, a1, a2, a3, a4, a5, a6, hP7⟩ := seven H7.out
    subst hP7
    have HPP := Lib.hid hPP
    clear hPP HP H7
    go_wp2_with (first
      | (refine store_ring rfl _ _ rfl W1.heap.size zero7 [a0, a1, a2, a3, a4, a5, a6] rfl rfl rfl rfl HA ?_; intro w2 HA2 hg2 hs2; have HB2 := Lib.hid ((HB1.out.alloc hs1 _).grown hg2 (by simp; omega) (by simp; omega)); have hs2' : w.heap.size ≤ w2.heap.size := by rw [hs2]; simp; omega)
      | (refine load_ring rfl _ rfl W1.heap.size [a0, a1, a2, a3, a4, a5, a6] rfl rfl HA2 ?_))
    have hone := RowN.one w2 (B := w2.heap.size) (t := 53) (Nat.le_refl _) [a0, a1, a2, a3, a4, a5, a6] (m := 7) rfl
    have hpm : [[a0, a1, a2, a3, a4, a5, a6]] = padM [l] := by rw [HPP.out]; rfl
    rw [hpm] at hone
    rw [show w2.heap.size = W1.heap.size + 1 by rw [hs2]; simp] at hone
    have HSH := Lib.hid (shared_any n _ _ [l] _ hone HIS.out h3 h7 (by simp))
    have HB3 := Lib.hid (HB2.out.alloc hs2' (.cells (ints [a0, a1, a2, a3, a4, a5, a6]).toArray 53))
    clear hone hpm
    refine HSH.out.mono ?_
    rintro e w5 ⟨v5, rfl, hr5, hb5⟩
    have HB5 := Lib.hid (HB3.out.trans (hb5.mono (by simp; omega)))
    have HTL := Lib.hid (threeLists_any v5 _ (sharedL n [l]) w5 hr5 HSLEN.out)
    clear hr5
    go_wp2_with fail
    refine HTL.out.mono ?_
    rintro e w6 ⟨rfl, ho6, hb6⟩
    have hs5 : w.heap.size ≤ w5.heap.size := HB5.out.size
    go_wp2
    go_ret2
    refine ⟨.slice (some ⟨w5.heap.size, 0, none⟩) (sharedL n [l]).length (sharedL n [l]).length, by rw [HRB.out]; rfl, ?_, HB5.out.trans (hb6.mono hs5)⟩
    rw [HAL.out]
    exact ho6.more hs5 (Nat.le_refl _)
  · have HRB := Lib.hid (ring_no hr)
    have HAL : Hid (alR l = []) := by rw [Hid, alR, if_neg hr]
    rw [ring_no hr]
    clear hr
    go_wp2_with (refine store_ring rfl _ _ rfl W1.heap.size zero7 P rfl H7.out rfl rfl HA ?_; intro w2 HA2 hg2 hs2)
    go_ret2
    exact ⟨.slice none 0 0, by rw [HRB.out]; rfl, by rw [HAL.out]; exact .inl ⟨rfl, rfl⟩, (HB1.out.alloc hs1 _).grown hg2 (by simp; omega) (by simp; omega)⟩
end Go.Proofs.Ytamnacgclhaggaa
