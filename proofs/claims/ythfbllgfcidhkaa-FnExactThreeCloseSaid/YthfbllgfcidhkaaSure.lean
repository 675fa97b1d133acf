/- ThreeSure of the model and of the program. -/
import Derived.Test.YthfbllgfcidhkaaPick
namespace Go.Proofs.Ythfbllgfcidhkaa
open Go.ChangeShapes Go.WideShapes Go.ChangeAt Go.RowKit

def suR (q : Int) (L : List (List Int)) : List (List Int) := if Tel q L then sharedL q.toNat (agreeL q.toNat L) else []
theorem suR_tot (q : Int) (L : List (List Int)) : tot (suR q L) ≤ 1048576 := by
  unfold suR
  split
  · rename_i h; exact sharedL_tot _ _ (by have := h.2.1; omega)
  · simp [tot, sumTo]
theorem all_step (p : List Int → Bool) (R : List (List Int)) (k : Nat) (h : k < R.length) : (R.take (k + 1)).all p = ((R.take k).all p && p (rowK R k)) := by
  rw [List.take_succ_eq_append_getElem h, List.all_append]
  simp [rowK, List.getD, h]

theorem GrowS.less {w : World} {B B' : Nat} {v : Value} {L : List (List Int)} (h : GrowS w B v L) (hB : B' ≤ B) : GrowS w B' v L := by
  obtain ⟨xs, p1, p2⟩ := h
  refine ⟨xs, own_rowLess p1 hB, fun k hk => ?_⟩
  obtain ⟨vk, q1, q2⟩ := p2 k hk
  exact ⟨vk, q1, q2.less hB⟩

set_option maxRecDepth 10000 in
set_option maxHeartbeats 4000000 in
theorem suS_any (A : Option Addr) (n c H : Nat) (q : Int) (L : List (List Int)) (w : World) (h : RdS w H A n L) (hH : H ≤ w.heap.size) (hn : tot L ≤ 1048576) :
    Calls Try.prog 25 #[.int .i64 q, .slice A n c] w fun e w' => ∃ v, e = .returned (.tuple #[v, .bool (tel q L)]) ∧ (∃ A c, v = .slice A (suR q L).length c ∧ RdS w' w'.heap.size A (suR q L).length (suR q L)) ∧ Below w.heap.size w w' := by
  obtain ⟨i0, hi, hz0, hz1, hz2⟩ := info_parts row_info
  have hnb : n ≤ 1048576 := by have := h.len; unfold tot at hn; omega
  have HN := Lib.hid h.len
  have HC := Lib.hid (fun W (hR : RdS W H A n L) => telS_any A n c H L q W hR hnb)
  have hg0 : Hid (GrowS (w.alloc (.cells #[] 27)) w.heap.size (.slice (some ⟨w.heap.size, 0, none⟩) 0 0) []) := GrowS.empty w (Nat.le_refl _)
  have hb0 : Below w.heap.size w (w.alloc (.cells #[] 27)) := (Below.refl _ _).alloc (Nat.le_refl _) _
  have hr0 := Lib.hid (h.below (hb0.mono hH))
  clear h hn
  go_enter Try.func25, Try.ntmps25
  go_wp2_with fail
  generalize w.alloc (.cells #[] 27) = W0 at *
  refine (HC.out W0 hr0.out).mono ?_
  rintro e w1 ⟨rfl, p0, rfl⟩
  by_cases ht : Tel q L
  · obtain ⟨m, rfl, h3, h6⟩ := tel_nat ht
    have HTY := Lib.hid (tel_yes ht).1
    have HSU : Hid (suR (m : Int) L = (everyL m).filter fun t => (agreeL m L).all fun l => has3 l t) := by rw [Hid, suR, if_pos ht, Int.toNat_natCast]; rfl
    have HT := Lib.hid ht
    have HEL := everyL_len m (by omega)
    have HAL := agreeL_len m L h3 h6
    have HIS := Lib.hid (agreeL_is m L h3 h6)
    rw [(tel_yes ht).1]
    clear ht HC
    have hg1 := Lib.hid (hg0.out.drewN p0)
    have hr1 := Lib.hid (hr0.out.drewN p0)
    have hb1 := below_drewN hb0 p0
    clear hg0 hr0 hb0
    generalize W0.drewN p0 = W1 at *
    go_wp2_with fail
    refine (l2Rings_any A n c H m L W1 hr1.out (by have := hb1.size; omega) h3 h6 (by rw [← HN.out]; have := HT.out.2.2.1; omega) HT.out.2.2.2).mono ?_
    rintro e w2 ⟨va, rfl, hga, hb2⟩
    obtain ⟨Aa, ca, rfl, _⟩ := hga.slice
    have HA2 := Lib.hid (hga.less hb1.size)
    have HG2 := Lib.hid (hg1.out.below hb2 (Nat.le_refl _))
    have HAPA : Hid (Apart (.slice Aa (agreeL m L).length ca) (.slice (some ⟨w.heap.size, 0, none⟩) 0 0)) := fun i hi e => by
      have h1 := (hga.blk i hi).1
      have h2 := (hg1.out.blk w.heap.size rfl).2
      simp [Value.ownBlock] at e
      omega
    have HB2 := Lib.hid (hb1.trans (hb2.mono hb1.size))
    clear hga hb2 hg1 hr1 hb1
    go_wp2_with fail
    refine (l2Every_any m w2 (by omega)).mono ?_
    rintro e w3 ⟨ve, rfl, hge, hb3⟩
    obtain ⟨Ae, ce, rfl, _⟩ := hge.slice
    have HG3 := Lib.hid (HG2.out.below hb3 (Nat.le_refl _))
    have HA3 := Lib.hid (HA2.out.below hb3 (Nat.le_refl _))
    have HE3 := Lib.hid (hge.less HB2.out.size)
    have HAPE : Hid (Apart (.slice Ae (everyL m).length ce) (.slice (some ⟨w.heap.size, 0, none⟩) 0 0)) := fun i hi e => by
      have h1 := (hge.blk i hi).1
      have h2 := (HG2.out.blk w.heap.size rfl).2
      simp [Value.ownBlock] at e
      omega
    have HB3 := Lib.hid (HB2.out.trans (hb3.mono HB2.out.size))
    clear hge hb3 HG2 HA2 HB2
    obtain ⟨z, hz⟩ : ∃ z, z = (everyL m).length := ⟨_, rfl⟩
    obtain ⟨y, hy⟩ : ∃ y, y = (agreeL m L).length := ⟨_, rfl⟩
    have HZ := Lib.hid hz
    have HY := Lib.hid hy
    rw [← hz] at HE3 HAPE HEL ⊢
    rw [← hy] at HA3 HAPA HAL ⊢
    clear hz hy
    obtain ⟨R, hR⟩ : ∃ R, R = agreeL m L := ⟨_, rfl⟩
    have HR := Lib.hid hR
    rw [← hR] at HA3 HY HSU HIS
    have HY2 : Hid (y = R.length) := HY
    clear hR
    generalize hB : w.heap.size = B at *
    have HB := Lib.hid hB
    clear hB
    go_wp2_with fail
    go_loopw [6, 9] (fun v i wr => ∃ k : Nat, k ≤ z ∧ i = .int .i64 k ∧ Hid (GrowS wr B v (pickTo (fun t => R.all fun l => has3 l t) (everyL m) k)) ∧ Hid (GrowS wr B (.slice Ae z ce) (everyL m)) ∧ Hid (Apart (.slice Ae z ce) v) ∧ Hid (GrowS wr B (.slice Aa y ca) R) ∧ Hid (Apart (.slice Aa y ca) v) ∧ Below B w wr) (fun _ i _ => z - (intOf i).toNat)
    case atStart => exact ⟨0, Nat.zero_le _, rfl, HG3, HE3, HAPE, HA3, HAPA, HB3.out⟩
    case round =>
      obtain ⟨k, hk, rfl, hgs, hge, hap, hga, hapa, hbl⟩ := hrel
      clear HG3 HE3 HAPE HA3 HAPA HB3
      have HBL := Lib.hid hbl
      have hBw : B ≤ wr.heap.size := by rw [← HB.out]; exact hbl.size
      clear hbl
      by_cases hlt : k < z
      · have hkl : k < (everyL m).length := by rw [← HZ.out]; exact hlt
        obtain ⟨g, c', A', d', e0, hc, hrow⟩ := hge.out.row hkl
        rw [← HZ.out] at e0
        injection e0 with e1 _ e3
        subst e3
        subst e1
        have hthr := (every_thr m _).1 (rowK_mem hkl)
        have HMEM := Lib.hid (fun l (hl : IsR m l) => hl.mem3 (L := [rowK (everyL m) k]) (fun t ht => by rw [List.mem_singleton.1 ht]; exact hthr))
        have HYES := Lib.hid (pickTo_yes (p := fun t => R.all fun l => has3 l t) hkl)
        have HNO := Lib.hid (pickTo_no (p := fun t => R.all fun l => has3 l t) hkl)
        have HROW := Lib.hid hrow
        have hpl := pickTo_len (fun t => R.all fun l => has3 l t) (everyL m) k
        obtain ⟨x, x2, x3, e⟩ := of_three hthr.1
        rw [e] at HROW HYES HNO hc HMEM
        clear hkl hrow hthr e
        change wr.cell? ⟨g, k, none⟩ = some (.slice A' 3 d') at hc
        have HC0 := Lib.hid hc
        obtain ⟨wo, hwo⟩ : ∃ wo, wo = wr := ⟨_, rfl⟩
        subst wr
        go_wp2
        go_loopw [10, 11] (fun ok i wi => ∃ j : Nat, j ≤ y ∧ i = .int .i64 j ∧ ok = .bool ((R.take j).all fun l => has3 l [x, x2, x3]) ∧ ∃ p, wi = wo.drewN p) (fun _ i _ => y - (intOf i).toNat)
        case atStart => exact ⟨0, Nat.zero_le _, by go_num, by simp, 0, rfl⟩
        case round =>
          obtain ⟨j, hj, rfl, rfl, p, hp⟩ := hrel
          have HP := Lib.hid hp
          by_cases hlj : j < y
          · have hjl : j < R.length := by rw [← HY2.out]; exact hlj
            obtain ⟨ga, ca', A2, d2, e0, hca, hrowa⟩ := hga.out.row hjl
            rw [← HY2.out] at e0
            injection e0 with e1 _ e3
            subst e3
            subst e1
            have hI := HIS.out _ (rowK_mem hjl)
            obtain ⟨y1, y2, y3, ey, gx, gy, gz⟩ := HMEM.out _ hI [x, x2, x3] (by simp)
            injection ey with e4 e5
            injection e5 with e5 e6
            injection e6 with e6 _
            subst e4; subst e5; subst e6
            have HHAS := Lib.hid (fun r => l2Has_any A2 _ d2 wo.heap.size (rowK R j) A' d' wo.heap.size x x2 x3 ((wo.drewN p).drewN r) ((hrowa.1.rd.2.drewN p).drewN r) ((HROW.out.1.rd.2.drewN p).drewN r) (by rw [hI.1]; omega) (by rw [hI.1]; omega) gx gy gz)
            have HST := Lib.hid (all_step (fun l => has3 l [x, x2, x3]) R j hjl)
            have hce : (wo.drewN p).cell? ⟨g, k, none⟩ = some (.slice A' 3 d') := HC0.out
            have hcd : (wo.drewN p).cell? ⟨ga, j, none⟩ = some (.slice A2 (rowK R j).length d2) := hca
            obtain ⟨b, hb⟩ : ∃ b, b = has3 (rowK R j) [x, x2, x3] := ⟨_, rfl⟩
            obtain ⟨s, hs⟩ : ∃ s, s = (R.take j).all fun l => has3 l [x, x2, x3] := ⟨_, rfl⟩
            rw [← hb] at HHAS HST
            rw [← hs] at HST ⊢
            clear hrowa hI gx gy gz hjl hb hs hp
            generalize (rowK R j).length = lr at *
            have HP2 : Hid (wr = wo.drewN p) := HP
            clear HP
            generalize hW : wo.drewN p = wp at *
            have HW := Lib.hid hW
            clear hW
            cases s with
            | true =>
              rw [HP2.out]
              go_wp2
              go_quiet (first | (go_at_call 47; refine Calls.quiet_of (HHAS.out _)))
              go_wp2
              go_roundw
              case rel => exact ⟨j + 1, by omega, by go_num, by rw [HST.out]; simp, p + nq, by rw [← HW.out]; first | rfl | rw [World.drewN_drewN]⟩
              case measure => simp [intOf]; omega
            | false =>
              rw [HP2.out]
              go_wp2
              go_quiet (fail)
              go_wp2
              go_roundw
              case rel => exact ⟨j + 1, by omega, by go_num, by rw [HST.out]; simp, p + nq, by rw [← HW.out]; first | rfl | rw [World.drewN_drewN]⟩
              case measure => simp [intOf]; omega
          · obtain rfl : j = y := by omega
            have eR : R.take j = R := List.take_of_length_le (by rw [← HY2.out]; omega)
            rw [eR]
            have hG2 := Lib.hid (hgs.out.drewN p)
            have hE2 := Lib.hid (hge.out.drewN p)
            have hA2 := Lib.hid (hga.out.drewN p)
            have hV2 : Hid (RowV (wo.drewN p) B (.slice A' 3 d') [x, x2, x3]) := Lib.hid (HROW.out.same fun _ _ => rfl)
            have hB2 := Lib.hid (below_drewN HBL.out p)
            have hBw2 : B ≤ (wo.drewN p).heap.size := hBw
            have hce : (wo.drewN p).cell? ⟨g, k, none⟩ = some (.slice A' 3 d') := HC0.out
            have HP2 : Hid (wr = wo.drewN p) := HP
            rw [HP2.out]
            clear HP HP2 hp hgs hge hga HROW HBL hBw hc HC0 eR
            generalize wo.drewN p = w2 at *
            cases hall : (R.all fun l => has3 l [x, x2, x3]) with
            | true =>
              have HST := Lib.hid (HYES.out hall)
              clear HYES HNO hall
              obtain ⟨xs, hx1, hx2⟩ := hG2.out
              have HX1 := Lib.hid hx1
              have HX2 := Lib.hid hx2
              clear hx1 hx2 hG2
              go_wp2_with (at_builtin; refine wpList_append_own_at _ rfl _ _ 22 rfl B 27 i0 (.slice none 0 0) 1 24 Try.underlying22 hi hz0 hz1 hz2 rfl (by decide) _ _ _ rfl (HX1.out.alloc _) ⟨w2.heap.size, 0, none⟩ 1 1 [.slice A' 3 d'] rfl rfl (one_cell w2 _ _) (by simp [Value.oneCell']) (by unfold maxLen; omega) (by omega) (by simp; omega) ?_)
              intro v' w5 hown5 hgr5 _ hat5
              have HG5 := Lib.hid (grow_row rfl HX1.out HX2.out hV2.out _ hown5 hgr5)
              rw [HST.out] at HG5
              have HE5 := Lib.hid (hE2.out.far HX1.out hgr5 hap.out)
              have HA5 := Lib.hid (hA2.out.far HX1.out hgr5 hapa.out)
              have HAP5 := Lib.hid (hap.out.next hE2.out hat5)
              have HAPA5 := Lib.hid (hapa.out.next hA2.out hat5)
              have HB5 := Lib.hid ((hB2.out.alloc hBw2 _).grown hgr5 (by simp; omega) (fun i hi => (HX1.out.lt i hi).1))
              clear hown5 hgr5 hat5
              go_wp2
              go_roundw
              case rel => exact ⟨k + 1, by omega, by go_num, HG5, HE5, HAP5, HA5, HAPA5, HB5.out⟩
              case measure => simp [intOf]; omega
            | false =>
              have HST := Lib.hid (HNO.out hall)
              rw [HST.out] at hG2
              clear HYES HNO hall
              go_wp2
              go_roundw
              case rel => exact ⟨k + 1, by omega, by go_num, hG2, hE2, hap, hA2, hapa, hB2.out⟩
              case measure => simp [intOf]; omega
      · obtain rfl : k = z := by omega
        have hgs' := hgs.out
        rw [HZ.out, pickTo_full] at hgs'
        obtain ⟨A', d', e', _⟩ := hgs'.slice
        subst e'
        have HGS := Lib.hid hgs'
        clear hgs hgs'
        go_wp2
        go_ret2
        refine ⟨.slice A' ((everyL m).filter fun t => R.all fun l => has3 l t).length d', by rw [HTY.out]; rfl, ?_, by rw [HB.out]; exact HBL.out⟩
        rw [HSU.out]
        exact ⟨A', d', rfl, HGS.out.rd.2⟩
  · have HTY := Lib.hid (tel_no ht).1
    have HSU : Hid (suR q L = []) := by rw [Hid, suR, if_neg ht]
    rw [(tel_no ht).1]
    clear ht HC
    go_wp2_with fail
    go_ret2
    refine ⟨.slice (some ⟨w.heap.size, 0, none⟩) 0 0, by rw [HTY.out]; rfl, ?_, below_drewN hb0 p0⟩
    rw [HSU.out]
    exact ⟨_, _, rfl, RdS.nil⟩

set_option maxHeartbeats 1000000 in
theorem suI_any (A : Option Addr) (n c H : Nat) (q : Int) (L : List (List Int)) (w : World) (h : RdS w H A n L) (hH : H ≤ w.heap.size) (_ : tot L ≤ 1048576) :
    Calls Try.prog 26 #[.int .i64 q, .slice A n c] w fun e w' => ∃ v, e = .returned (.tuple #[v, .bool (tel q L)]) ∧ OwnS w' w.heap.size w'.heap.size v (suR q L) ∧ Below w.heap.size w w' := by
  have HC := Lib.hid (readThrees_any A n c H L q w h hH)
  by_cases ht : Tel q L
  · obtain ⟨k, rfl, h3, h6⟩ := tel_nat ht
    have HTY := Lib.hid (tel_yes ht).1
    have HT := Lib.hid ht
    have HSU : Hid (suR (k : Int) L = sharedL k (agreeL k L)) := by rw [Hid, suR, if_pos ht, Int.toNat_natCast]
    have HIS := Lib.hid (agreeL_is k L h3 h6)
    have HAL := Lib.hid (agreeL_len k L h3 h6)
    have HSLEN : Hid ((sharedL k (agreeL k L)).length ≤ 1000) := by
      have h1 := List.length_filter_le (fun t => (agreeL k L).all fun l => has3 l t) (everyL k)
      have h2 := everyL_len k (by omega)
      simp only [Hid, sharedL]; omega
    rw [(tel_yes ht).1, (tel_yes ht).2] at HC
    rw [HTY.out]
    clear h hH ht
    go_enter Try.func26, Try.ntmps26
    go_wp2_with fail
    refine HC.out.mono ?_
    rintro e w1 ⟨v1, rfl, hr1, hb1⟩
    have HG := Lib.hid (agreeing_any k v1 w.heap.size L w1 hr1 h3 h6 (by have := HT.out.2.2.1; omega) HT.out.2.2.2)
    clear hr1 HC
    go_wp2_with fail
    refine HG.out.mono ?_
    rintro e w2 ⟨v2, rfl, hr2, hb2⟩
    have hs2 := Nat.le_trans hb1.size hb2.size
    have HSH := Lib.hid (shared_any k v2 w1.heap.size (agreeL k L) w2 hr2 HIS.out h3 (by omega) (by have := HAL.out; omega))
    clear hr2
    go_wp2_with fail
    refine HSH.out.mono ?_
    rintro e w3 ⟨v3, rfl, hr3, hb3⟩
    have HTL := Lib.hid (threeLists_any v3 _ (sharedL k (agreeL k L)) w3 hr3 HSLEN.out)
    have hs3 := Nat.le_trans hs2 hb3.size
    clear hr3
    go_wp2_with fail
    refine HTL.out.mono ?_
    rintro e w6 ⟨rfl, ho6, hb6⟩
    go_wp2
    go_ret2
    refine ⟨.slice (some ⟨w3.heap.size, 0, none⟩) (sharedL k (agreeL k L)).length (sharedL k (agreeL k L)).length, rfl, ?_, ((hb1.trans (hb2.mono hb1.size)).trans (hb3.mono hs2)).trans (hb6.mono hs3)⟩
    rw [HSU.out]
    exact ho6.more hs3 (Nat.le_refl _)
  · have HTY := Lib.hid (tel_no ht).1
    have HSU : Hid (suR q L = []) := by rw [Hid, suR, if_neg ht]
    rw [(tel_no ht).1] at HC
    rw [HTY.out]
    clear h hH ht
    go_enter Try.func26, Try.ntmps26
    go_wp2_with (go_at_call 35; refine HC.out.mono ?_; rintro e w1 ⟨v1, rfl, _, hb1⟩)
    go_ret2
    exact ⟨.slice none 0 0, rfl, by rw [HSU.out]; exact .inl ⟨rfl, rfl⟩, hb1⟩
end Go.Proofs.Ythfbllgfcidhkaa
