/- ThreeClose and ThreeClash of the laws. -/
import Derived.Test.YtdlgabefbomleaaClosS
import Derived.Test.YtdlgabefbomleaaCloI
namespace Go.Proofs.Ytdlgabefbomleaa
open Go.ChangeShapes Go.WideShapes Go.ChangeAt Go.RowKit

theorem Mk.far {w w5 : World} {g D n : Nat} {K : List (List Int)} {v : Value} {xs : List Value} {o : Obj} (h : Mk w g K) (ho : w.ownsRow D 23 1 v n xs) (hg : (w.alloc o).grownBy w5 v.ownBlock) : Mk w5 g K := by
  refine h.same ?_
  rw [hg.block g (by have := h.lt; simp; omega) ?_, Below.heap_alloc w o g h.lt]
  intro e
  obtain ⟨P, _, hb, _⟩ := h
  rcases ho.2 with ⟨rfl, _⟩ | ⟨g', cap, cur, rfl, _, hgg, _⟩
  · cases e
  · have e1 : g = g' := Option.some.inj e
    subst e1
    rw [hb] at hgg
    simp at hgg
theorem clR_tot (q : Int) (L : List (List Int)) : tot (clR q L) ≤ 1048576 := by
  unfold clR
  split
  · rename_i h
    have h6 := h.2.1
    have h1 := cloL_len q.toNat L (by omega)
    have h2 := sumTo_small (cloL q.toNat L) (fun l hl => by rw [cloL_row _ _ l hl]; omega) (cloL q.toNat L).length (Nat.le_refl _)
    unfold tot; omega
  · simp [tot, sumTo]

set_option maxRecDepth 10000 in
set_option maxHeartbeats 4000000 in
theorem clS_any (A : Option Addr) (n c H : Nat) (q : Int) (L : List (List Int)) (w : World) (h : RdS w H A n L) (hH : H ≤ w.heap.size) (hn : tot L ≤ 1048576) :
    Calls Try.prog 31 #[.int .i64 q, .slice A n c] w fun e w' => ∃ v, e = .returned (.tuple #[v, .bool (tel q L)]) ∧ (∃ A c, v = .slice A (clR q L).length c ∧ RdS w' w'.heap.size A (clR q L).length (clR q L)) ∧ Below w.heap.size w w' := by
  obtain ⟨i0, hi, hz0, hz1, hz2⟩ := info_parts row_info
  have hnb : n ≤ 1048576 := by have := h.len; unfold tot at hn; omega
  have HN := Lib.hid h.len
  have HC := Lib.hid (fun W (hR : RdS W H A n L) => telS_any A n c H L q W hR hnb)
  have hg0 : Hid (GrowS (w.alloc (.cells #[] 23)) w.heap.size (.slice (some ⟨w.heap.size, 0, none⟩) 0 0) []) := GrowS.empty w (Nat.le_refl _)
  have hb0 : Below w.heap.size w (w.alloc (.cells #[] 23)) := (Below.refl _ _).alloc (Nat.le_refl _) _
  have hr0 := Lib.hid (h.below (hb0.mono hH))
  clear h hn
  go_enter Try.func31, Try.ntmps31
  go_wp2_with fail
  generalize w.alloc (.cells #[] 23) = W0 at *
  refine (HC.out W0 hr0.out).mono ?_
  rintro e w1 ⟨rfl, p0, rfl⟩
  by_cases ht : Tel q L
  · obtain ⟨m, rfl, h3, h6⟩ := tel_nat ht
    have HTY := Lib.hid (tel_yes ht).1
    have HSU : Hid (clR (m : Int) L = cloL m L) := by rw [Hid, clR, if_pos ht, Int.toNat_natCast]
    have HT := Lib.hid ht
    have HEL := everyL_len m (by omega)
    rw [(tel_yes ht).1]
    clear ht HC
    have hg1 := Lib.hid (hg0.out.drewN p0)
    have hr1 := Lib.hid (hr0.out.drewN p0)
    have hb1 := below_drewN hb0 p0
    clear hg0 hr0 hb0
    generalize W0.drewN p0 = W1 at *
    go_wp2_with fail
    refine (closedS_any A n c H m L W1 hr1.out (by have := hb1.size; omega) h3 h6 (by rw [← HN.out]; exact HT.out.2.2.1) HT.out.2.2.2).mono ?_
    rintro e w2 ⟨rfl, ⟨K, hmk, hK⟩, hb2⟩
    obtain ⟨G, hG⟩ : ∃ G, G = W1.heap.size := ⟨_, rfl⟩
    rw [← hG] at hmk hb2 ⊢
    have HM2 := Lib.hid hmk
    have HKK := Lib.hid hK
    have HG2 := Lib.hid (hg1.out.below hb2 (by omega))
    have HB2 := Lib.hid (hb1.trans (hb2.mono (by have := hb1.size; omega)))
    clear hmk hK hb2 hg1 hr1 hb1 hG
    have HSF := Lib.hid (cloL_of (n := m) HKK.out)
    go_wp2_with fail
    refine (l2Every_any m w2 (by omega)).mono ?_
    rintro e w3 ⟨ve, rfl, hge, hb3⟩
    obtain ⟨Ae, ce, rfl, _⟩ := hge.slice
    have HG3 := Lib.hid (HG2.out.below hb3 (Nat.le_refl _))
    have HM3 := Lib.hid (HM2.out.below hb3 HM2.out.lt)
    have HE3 := Lib.hid (hge.less HB2.out.size)
    have HAPE : Hid (Apart (.slice Ae (everyL m).length ce) (.slice (some ⟨w.heap.size, 0, none⟩) 0 0)) := fun i hi e => by
      have h1 := (hge.blk i hi).1
      have h2 := (HG2.out.blk w.heap.size rfl).2
      simp [Value.ownBlock] at e
      omega
    have HB3 := Lib.hid (HB2.out.trans (hb3.mono HB2.out.size))
    clear hge hb3 HG2 HM2 HB2
    obtain ⟨z, hz⟩ : ∃ z, z = (everyL m).length := ⟨_, rfl⟩
    have HZ := Lib.hid hz
    rw [← hz] at HE3 HAPE HEL ⊢
    clear hz
    generalize hB : w.heap.size = B at *
    have HB := Lib.hid hB
    clear hB
    go_wp2_with fail
    go_loopw [6, 9] (fun v i wr => ∃ k : Nat, k ≤ z ∧ i = .int .i64 k ∧ Hid (GrowS wr B v (pickTo (fun t => decide (t ∈ K)) (everyL m) k)) ∧ Hid (GrowS wr B (.slice Ae z ce) (everyL m)) ∧ Hid (Apart (.slice Ae z ce) v) ∧ Hid (Mk wr G K) ∧ Below B w wr) (fun _ i _ => z - (intOf i).toNat)
    case atStart => exact ⟨0, Nat.zero_le _, rfl, HG3, HE3, HAPE, HM3, HB3.out⟩
    case round =>
      obtain ⟨k, hk, rfl, hgs, hge, hap, hmk, hbl⟩ := hrel
      clear HG3 HE3 HAPE HM3 HB3
      have HBL := Lib.hid hbl
      have hBw : B ≤ wr.heap.size := by rw [← HB.out]; exact hbl.size
      clear hbl
      by_cases hlt : k < z
      · have hkl : k < (everyL m).length := by rw [← HZ.out]; exact hlt
        obtain ⟨g, c', A', d', e0, hc, hrow⟩ := hge.out.row hkl
        rw [← HZ.out] at e0
        injection e0 with e1 _ e3
        subst e3
        subst e1
        have hthr := (every_thr m _).1 (rowK_mem hkl)
        have HYES := Lib.hid (pickTo_yes (p := fun t => decide (t ∈ K)) hkl)
        have HNO := Lib.hid (pickTo_no (p := fun t => decide (t ∈ K)) hkl)
        have HROW := Lib.hid hrow
        have hpl := pickTo_len (fun t => decide (t ∈ K)) (everyL m) k
        obtain ⟨x, y, u, e, hx, hy, hu, _⟩ := thr_nat hthr
        rw [e] at HROW HYES HNO hc
        obtain ⟨b', o', eA, hbH, c0, c1, c2⟩ := rd3 HROW.out.1.rd.2
        subst eA
        change wr.cell? ⟨g, k, none⟩ = some (.slice (some ⟨b', o', none⟩) 3 d') at hc
        obtain ⟨q1, hq1⟩ : ∃ q, q = codeN x y u := ⟨_, rfl⟩
        have l1 : q1 < 216 := by rw [hq1]; exact codeN_lt (by omega) (by omega) (by omega)
        have HC1 := Lib.hid (fun W => code_any x y u W (by omega) (by omega) (by omega))
        have m1 := hmk.out.cell (a := x) (b := y) (c := u) (by omega) (by omega) (by omega)
        rw [← hq1] at HC1 m1
        have HCE := Lib.hid hc
        clear hkl hrow hthr e hq1
        cases hr : decide ([(x : Int), (y : Int), (u : Int)] ∈ K) with
        | true =>
          rw [hr] at m1
          have HST := Lib.hid (HYES.out hr)
          clear hr HYES HNO
          go_wp2
          go_quiet (refine Calls.quiet_of_same (HC1.out _))
          have hce : (wr.drewN nq).cell? ⟨g, k, none⟩ = some (.slice (some ⟨b', o', none⟩) 3 d') := HCE.out
          have hG2 := Lib.hid (hgs.out.drewN nq)
          have hE2 := Lib.hid (hge.out.drewN nq)
          have hV2 : Hid (RowV (wr.drewN nq) B (.slice (some ⟨b', o', none⟩) 3 d') [(x : Int), (y : Int), (u : Int)]) := Lib.hid (HROW.out.same fun _ _ => rfl)
          have hM2 := Lib.hid (hmk.out.drewN nq)
          have hB2 := Lib.hid (below_drewN HBL.out nq)
          have hBw2 : B ≤ (wr.drewN nq).heap.size := hBw
          clear hgs hge hmk HROW HBL hBw hc HCE c0 c1 c2 m1
          generalize wr.drewN nq = w2 at *
          obtain ⟨xs, hx1, hx2⟩ := hG2.out
          have HX1 := Lib.hid hx1
          have HX2 := Lib.hid hx2
          clear hx1 hx2 hG2
          go_wp2_with (at_builtin; refine wpList_append_own_at _ rfl _ _ 31 rfl B 23 i0 (.slice none 0 0) 1 24 Try.underlying31 hi hz0 hz1 hz2 rfl (by decide) _ _ _ rfl (HX1.out.alloc _) ⟨w2.heap.size, 0, none⟩ 1 1 [.slice (some ⟨b', o', none⟩) 3 d'] rfl rfl (one_cell w2 _ _) (by simp [Value.oneCell']) (by unfold maxLen; omega) (by omega) (by simp; omega) ?_)
          intro v' w5 hown5 hgr5 _ hat5
          have HG5 := Lib.hid (grow_row rfl HX1.out HX2.out hV2.out _ hown5 hgr5)
          rw [HST.out] at HG5
          have HE5 := Lib.hid (hE2.out.far HX1.out hgr5 hap.out)
          have HM5 := Lib.hid (hM2.out.far HX1.out hgr5)
          have HAP5 := Lib.hid (hap.out.next hE2.out hat5)
          have HB5 := Lib.hid ((hB2.out.alloc hBw2 _).grown hgr5 (by simp; omega) (fun i hi => (HX1.out.lt i hi).1))
          clear hown5 hgr5 hat5
          go_wp2
          go_roundw
          case rel => exact ⟨k + 1, by omega, by go_num, HG5, HE5, HAP5, HM5, HB5.out⟩
          case measure => simp [intOf]; omega
        | false =>
          rw [hr] at m1
          have HST := Lib.hid (HNO.out hr)
          rw [HST.out] at hgs
          clear hr HYES HNO
          go_wp2
          go_quiet (refine Calls.quiet_of_same (HC1.out _))
          go_wp2
          go_roundw
          case rel => exact ⟨k + 1, by omega, by go_num, Lib.hid (hgs.out.drewN nq), Lib.hid (hge.out.drewN nq), hap, Lib.hid (hmk.out.drewN nq), below_drewN HBL.out nq⟩
          case measure => simp [intOf]; omega
      · obtain rfl : k = z := by omega
        have hgs' := hgs.out
        rw [HZ.out, pickTo_full, HSF.out] at hgs'
        obtain ⟨A', d', e', _⟩ := hgs'.slice
        subst e'
        have HGS := Lib.hid hgs'
        clear hgs hgs'
        go_wp2
        go_ret2
        refine ⟨.slice A' (cloL m L).length d', by rw [HTY.out]; rfl, ?_, by rw [HB.out]; exact HBL.out⟩
        rw [HSU.out]
        exact ⟨A', d', rfl, HGS.out.rd.2⟩
  · have HTY := Lib.hid (tel_no ht).1
    have HSU : Hid (clR q L = []) := by rw [Hid, clR, if_neg ht]
    rw [(tel_no ht).1]
    clear ht HC
    go_wp2_with fail
    go_ret2
    refine ⟨.slice (some ⟨w.heap.size, 0, none⟩) 0 0, by rw [HTY.out]; rfl, ?_, below_drewN hb0 p0⟩
    rw [HSU.out]
    exact ⟨_, _, rfl, RdS.nil⟩

set_option maxRecDepth 10000 in
set_option maxHeartbeats 4000000 in
theorem chS_any (A : Option Addr) (n c H : Nat) (q : Int) (L : List (List Int)) (w : World) (h : RdS w H A n L) (hH : H ≤ w.heap.size) (hn : tot L ≤ 1048576) :
    Calls Try.prog 33 #[.int .i64 q, .slice A n c] w fun e w' => e = .returned (.bool (chB q L)) ∧ Below w.heap.size w w' := by
  have hnb : n ≤ 1048576 := by have := h.len; unfold tot at hn; omega
  have HN := Lib.hid h.len
  have HC := Lib.hid (fun W (hR : RdS W H A n L) => telS_any A n c H L q W hR hnb)
  have hr0 := Lib.hid h
  clear h hn
  obtain ⟨r0, hr00⟩ : ∃ r, r = chB q L := ⟨_, rfl⟩
  have HRR := Lib.hid hr00
  rw [← hr00]
  clear hr00
  go_enter Try.func33, Try.ntmps33
  go_wp2_with fail
  refine (HC.out w hr0.out).mono ?_
  rintro e w1 ⟨rfl, p0, rfl⟩
  by_cases ht : Tel q L
  · obtain ⟨m, rfl, h3, h6⟩ := tel_nat ht
    have HSU : Hid (r0 = clashB m L) := by rw [Hid, HRR.out, chB, if_pos ht, Int.toNat_natCast]
    have HT := Lib.hid ht
    have HEL := everyL_len m (by omega)
    rw [(tel_yes ht).1]
    clear ht HC HRR
    have hr1 := Lib.hid (hr0.out.drewN p0)
    have hb1 : Below w.heap.size w (w.drewN p0) := below_drewN (Below.refl _ _) p0
    have hs1 : (w.drewN p0).heap.size = w.heap.size := rfl
    clear hr0
    generalize w.drewN p0 = W1 at *
    go_wp2_with fail
    refine (closedS_any A n c H m L W1 hr1.out (by omega) h3 h6 (by rw [← HN.out]; exact HT.out.2.2.1) HT.out.2.2.2).mono ?_
    rintro e w2 ⟨rfl, ⟨K, hmk, hK⟩, hb2⟩
    rw [hs1] at hmk hb2 ⊢
    have HM2 := Lib.hid hmk
    have HB2 := Lib.hid (hb1.trans hb2)
    have HSF : Hid (r0 = (everyL m).any fun t => decide (t ∈ K) && decide (turn3 t ∈ K)) := by rw [Hid, HSU.out, ← clashB_of hK, List.any_filter]
    clear hmk hK hb2 hr1 hb1 hs1 HSU
    go_wp2_with fail
    refine (l2Every_any m w2 (by omega)).mono ?_
    rintro e w3 ⟨ve, rfl, hge, hb3⟩
    obtain ⟨Ae, ce, rfl, _⟩ := hge.slice
    have HM3 := Lib.hid (HM2.out.below hb3 HM2.out.lt)
    have HE3 := Lib.hid hge
    have HB3 := Lib.hid (HB2.out.trans (hb3.mono HB2.out.size))
    clear hge hb3 HM2
    obtain ⟨z, hz⟩ : ∃ z, z = (everyL m).length := ⟨_, rfl⟩
    have HZ := Lib.hid hz
    rw [← hz] at HE3 HEL ⊢
    clear hz
    generalize hB : w.heap.size = B at *
    have HB := Lib.hid hB
    clear hB
    go_wp2_with fail
    go_loopw [7] (fun i wr => ∃ k : Nat, k ≤ z ∧ i = .int .i64 k ∧ Hid (((everyL m).take k).any (fun t => decide (t ∈ K) && decide (turn3 t ∈ K)) = false) ∧ Hid (GrowS wr w2.heap.size (.slice Ae z ce) (everyL m)) ∧ Hid (Mk wr B K) ∧ Below B w wr) (fun i _ => z - (intOf i).toNat)
    case atStart => exact ⟨0, Nat.zero_le _, rfl, Lib.hid (by simp), HE3, HM3, HB3.out⟩
    case round =>
      obtain ⟨k, hk, rfl, hno, hge, hmk, hbl⟩ := hrel
      clear HE3 HM3 HB3
      have HBL := Lib.hid hbl
      clear hbl
      by_cases hlt : k < z
      · have hkl : k < (everyL m).length := by rw [← HZ.out]; exact hlt
        obtain ⟨g, c', A', d', e0, hc, hrow⟩ := hge.out.row hkl
        rw [← HZ.out] at e0
        injection e0 with e1 _ e3
        subst e3
        subst e1
        have hthr := (every_thr m _).1 (rowK_mem hkl)
        have HAS := Lib.hid (any_step (fun t => decide (t ∈ K) && decide (turn3 t ∈ K)) (everyL m) k hkl)
        have HAY := Lib.hid (any_yes (fun t => decide (t ∈ K) && decide (turn3 t ∈ K)) (everyL m) k hkl)
        obtain ⟨x, y, u, e, hx, hy, hu, _⟩ := thr_nat hthr
        rw [e] at HAS HAY hc hrow
        have e3 : turn3 [(x : Int), (y : Int), (u : Int)] = [(x : Int), (u : Int), (y : Int)] := rfl
        rw [e3] at HAS HAY
        obtain ⟨b', o', eA, hbH, c0, c1, c2⟩ := rd3 hrow.1.rd.2
        subst eA
        change wr.cell? ⟨g, k, none⟩ = some (.slice (some ⟨b', o', none⟩) 3 d') at hc
        have l1 : codeN x y u < 216 := codeN_lt (by omega) (by omega) (by omega)
        have l2 : codeN x u y < 216 := codeN_lt (by omega) (by omega) (by omega)
        have m1 := hmk.out.cell (a := x) (b := y) (c := u) (by omega) (by omega) (by omega)
        have m2 := hmk.out.cell (a := x) (b := u) (c := y) (by omega) (by omega) (by omega)
        clear hkl hrow hthr e e3
        cases hd1 : decide ([(x : Int), (y : Int), (u : Int)] ∈ K) with
        | false =>
          rw [hd1] at m1 HAS
          have HNN : Hid (((everyL m).take (k + 1)).any (fun t => decide (t ∈ K) && decide (turn3 t ∈ K)) = false) := by rw [Hid, HAS.out, hno.out]; rfl
          clear hd1 HAS HAY m2
          go_wp2
          go_quiet (refine Calls.quiet_of_same (code_any _ _ _ _ (by omega) (by omega) (by omega)))
          go_wp2
          go_roundw
          case rel => exact ⟨k + 1, by omega, by go_num, HNN, Lib.hid (hge.out.drewN nq), Lib.hid (hmk.out.drewN nq), below_drewN HBL.out nq⟩
          case measure => simp [intOf]; omega
        | true =>
          cases hd2 : decide ([(x : Int), (u : Int), (y : Int)] ∈ K) with
          | false =>
            rw [hd1] at m1 HAS
            rw [hd2] at m2 HAS
            have HNN : Hid (((everyL m).take (k + 1)).any (fun t => decide (t ∈ K) && decide (turn3 t ∈ K)) = false) := by rw [Hid, HAS.out, hno.out]; rfl
            clear hd1 hd2 HAS HAY
            go_wp2
            go_quiet (refine Calls.quiet_of_same (code_any _ _ _ _ (by omega) (by omega) (by omega)))
            go_wp2
            go_roundw
            case rel => exact ⟨k + 1, by omega, by go_num, HNN, Lib.hid (hge.out.drewN nq), Lib.hid (hmk.out.drewN nq), below_drewN HBL.out nq⟩
            case measure => simp [intOf]; omega
          | true =>
            rw [hd1] at m1
            rw [hd2] at m2
            have HYY : Hid (r0 = true) := by rw [Hid, HSF.out]; exact HAY.out (by rw [hd1, hd2]; rfl)
            clear hd1 hd2 HAS HAY
            go_wp2
            go_quiet (refine Calls.quiet_of_same (code_any _ _ _ _ (by omega) (by omega) (by omega)))
            go_wp2
            go_ret
            exact ⟨by rw [HYY.out]; rfl, by rw [HB.out]; exact below_drewN HBL.out nq⟩
      · obtain rfl : k = z := by omega
        have HNN : Hid (r0 = false) := by
          have := hno.out
          rw [List.take_of_length_le (by rw [← HZ.out]; omega)] at this
          rw [Hid, HSF.out, this]
        clear hno
        go_wp2
        go_ret
        exact ⟨by rw [HNN.out]; rfl, by rw [HB.out]; exact HBL.out⟩
  · have HSU : Hid (r0 = false) := by rw [Hid, HRR.out, chB, if_neg ht]
    rw [(tel_no ht).1]
    clear ht HC HRR
    go_wp2_with fail
    go_ret
    exact ⟨by rw [HSU.out]; rfl, below_drewN (Below.refl _ _) p0⟩
end Go.Proofs.Ytdlgabefbomleaa
