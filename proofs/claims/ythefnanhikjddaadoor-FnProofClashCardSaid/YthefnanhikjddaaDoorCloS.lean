/- ThreeClose and ThreeClash of the laws. -/
import Derived.Test.YthefnanhikjddaaDoorCodS
import Derived.Test.YthefnanhikjddaaDoorCloI
namespace Go.Proofs.YthefnanhikjddaaDoor
open Go.ChangeShapes Go.WideShapes Go.ChangeAt Go.RowKit

theorem Mk.far {w w5 : World} {g D n : Nat} {K : List (List Int)} {v : Value} {xs : List Value} {o : Obj} (h : Mk w g K) (ho : w.ownsRow D 31 1 v n xs) (hg : (w.alloc o).grownBy w5 v.ownBlock) : Mk w5 g K := by
  refine h.same ?_
  rw [hg.block g (by have := h.lt; simp; omega) ?_, Below.heap_alloc w o g h.lt]
  intro e
  obtain ⟨P, _, hb, _⟩ := h
  rcases ho.2 with ⟨rfl, _⟩ | ⟨g', cap, cur, rfl, _, hgg, _⟩
  · cases e
  · have e1 : g = g' := Option.some.inj e
    subst e1
    rw [hb] at hgg
    simp at hgg
theorem clR_tot (q : Int) (L : List (List Int)) : tot (clR q L) ≤ 1048576 := by
  unfold clR
  split
  · rename_i h
    have h6 := h.2.1
    have h1 := cloL_len q.toNat L (by omega)
    have h2 := sumTo_small (cloL q.toNat L) (fun l hl => by rw [cloL_row _ _ l hl]; omega) (cloL q.toNat L).length (Nat.le_refl _)
    unfold tot; omega
  · simp [tot, sumTo]

set_option maxRecDepth 10000 in
set_option maxHeartbeats 4000000 in
theorem chS_any (A : Option Addr) (n c H : Nat) (q : Int) (L : List (List Int)) (w : World) (h : RdS w H A n L) (hH : H ≤ w.heap.size) (hn : tot L ≤ 1048576) :
    Calls Tryd.prog 12 #[.int .i64 q, .slice A n c] w fun e w' => e = .returned (.bool (chB q L)) ∧ Below w.heap.size w w' := by
  have hnb : n ≤ 1048576 := by have := h.len; unfold tot at hn; omega
  have HN := Lib.hid h.len
  have HC := Lib.hid (fun W (hR : RdS W H A n L) => telS_any A n c H L q W hR hnb)
  have hr0 := Lib.hid h
  clear h hn
  obtain ⟨r0, hr00⟩ : ∃ r, r = chB q L := ⟨_, rfl⟩
  have HRR := Lib.hid hr00
  rw [← hr00]
  clear hr00
  go_enter Tryd.func12, Tryd.ntmps12
  go_wp2_with fail
  refine (HC.out w hr0.out).mono ?_
  rintro e w1 ⟨rfl, p0, rfl⟩
  by_cases ht : Tel q L
  · obtain ⟨m, rfl, h3, h6⟩ := tel_nat ht
    have HSU : Hid (r0 = clashB m L) := by rw [Hid, HRR.out, chB, if_pos ht, Int.toNat_natCast]
    have HT := Lib.hid ht
    have HEL := everyL_len m (by omega)
    rw [(tel_yes ht).1]
    clear ht HC HRR
    have hr1 := Lib.hid (hr0.out.drewN p0)
    have hb1 : Below w.heap.size w (w.drewN p0) := below_drewN (Below.refl _ _) p0
    have hs1 : (w.drewN p0).heap.size = w.heap.size := rfl
    clear hr0
    generalize w.drewN p0 = W1 at *
    go_wp2_with fail
    refine (closedS_any A n c H m L W1 hr1.out (by omega) h3 h6 (by rw [← HN.out]; exact HT.out.2.2.1) HT.out.2.2.2).mono ?_
    rintro e w2 ⟨rfl, ⟨K, hmk, hK⟩, hb2⟩
    rw [hs1] at hmk hb2 ⊢
    have HM2 := Lib.hid hmk
    have HB2 := Lib.hid (hb1.trans hb2)
    have HSF : Hid (r0 = (everyL m).any fun t => decide (t ∈ K) && decide (turn3 t ∈ K)) := by rw [Hid, HSU.out, ← clashB_of hK, List.any_filter]
    clear hmk hK hb2 hr1 hb1 hs1 HSU
    go_wp2_with fail
    refine (l2Every_any m w2 (by omega)).mono ?_
    rintro e w3 ⟨ve, rfl, hge, hb3⟩
    obtain ⟨Ae, ce, rfl, _⟩ := hge.slice
    have HM3 := Lib.hid (HM2.out.below hb3 HM2.out.lt)
    have HE3 := Lib.hid hge
    have HB3 := Lib.hid (HB2.out.trans (hb3.mono HB2.out.size))
    clear hge hb3 HM2
    obtain ⟨z, hz⟩ : ∃ z, z = (everyL m).length := ⟨_, rfl⟩
    have HZ := Lib.hid hz
    rw [← hz] at HE3 HEL ⊢
    clear hz
    generalize hB : w.heap.size = B at *
    have HB := Lib.hid hB
    clear hB
    go_wp2_with fail
    go_loopw [7] (fun i wr => ∃ k : Nat, k ≤ z ∧ i = .int .i64 k ∧ Hid (((everyL m).take k).any (fun t => decide (t ∈ K) && decide (turn3 t ∈ K)) = false) ∧ Hid (GrowS wr w2.heap.size (.slice Ae z ce) (everyL m)) ∧ Hid (Mk wr B K) ∧ Below B w wr) (fun i _ => z - (intOf i).toNat)
    case atStart => exact ⟨0, Nat.zero_le _, rfl, Lib.hid (by simp), HE3, HM3, HB3.out⟩
    case round =>
      obtain ⟨k, hk, rfl, hno, hge, hmk, hbl⟩ := hrel
      clear HE3 HM3 HB3
      have HBL := Lib.hid hbl
      clear hbl
      by_cases hlt : k < z
      · have hkl : k < (everyL m).length := by rw [← HZ.out]; exact hlt
        obtain ⟨g, c', A', d', e0, hc, hrow⟩ := hge.out.row hkl
        rw [← HZ.out] at e0
        injection e0 with e1 _ e3
        subst e3
        subst e1
        have hthr := (every_thr m _).1 (rowK_mem hkl)
        have HAS := Lib.hid (any_step (fun t => decide (t ∈ K) && decide (turn3 t ∈ K)) (everyL m) k hkl)
        have HAY := Lib.hid (any_yes (fun t => decide (t ∈ K) && decide (turn3 t ∈ K)) (everyL m) k hkl)
        obtain ⟨x, y, u, e, hx, hy, hu, _⟩ := thr_nat hthr
        rw [e] at HAS HAY hc hrow
        have e3 : turn3 [(x : Int), (y : Int), (u : Int)] = [(x : Int), (u : Int), (y : Int)] := rfl
        rw [e3] at HAS HAY
        obtain ⟨b', o', eA, hbH, c0, c1, c2⟩ := rd3 hrow.1.rd.2
        subst eA
        change wr.cell? ⟨g, k, none⟩ = some (.slice (some ⟨b', o', none⟩) 3 d') at hc
        have l1 : codeN x y u < 216 := codeN_lt (by omega) (by omega) (by omega)
        have l2 : codeN x u y < 216 := codeN_lt (by omega) (by omega) (by omega)
        have m1 := hmk.out.cell (a := x) (b := y) (c := u) (by omega) (by omega) (by omega)
        have m2 := hmk.out.cell (a := x) (b := u) (c := y) (by omega) (by omega) (by omega)
        clear hkl hrow hthr e e3
        cases hd1 : decide ([(x : Int), (y : Int), (u : Int)] ∈ K) with
        | false =>
          rw [hd1] at m1 HAS
          have HNN : Hid (((everyL m).take (k + 1)).any (fun t => decide (t ∈ K) && decide (turn3 t ∈ K)) = false) := by rw [Hid, HAS.out, hno.out]; rfl
          clear hd1 HAS HAY m2
          go_wp2
          go_quiet (refine Calls.quiet_of_same (code_any _ _ _ _ (by omega) (by omega) (by omega)))
          go_wp2
          go_roundw
          case rel => exact ⟨k + 1, by omega, by go_num, HNN, Lib.hid (hge.out.drewN nq), Lib.hid (hmk.out.drewN nq), below_drewN HBL.out nq⟩
          case measure => simp [intOf]; omega
        | true =>
          cases hd2 : decide ([(x : Int), (u : Int), (y : Int)] ∈ K) with
          | false =>
            rw [hd1] at m1 HAS
            rw [hd2] at m2 HAS
            have HNN : Hid (((everyL m).take (k + 1)).any (fun t => decide (t ∈ K) && decide (turn3 t ∈ K)) = false) := by rw [Hid, HAS.out, hno.out]; rfl
            clear hd1 hd2 HAS HAY
            go_wp2
            go_quiet (refine Calls.quiet_of_same (code_any _ _ _ _ (by omega) (by omega) (by omega)))
            go_wp2
            go_roundw
            case rel => exact ⟨k + 1, by omega, by go_num, HNN, Lib.hid (hge.out.drewN nq), Lib.hid (hmk.out.drewN nq), below_drewN HBL.out nq⟩
            case measure => simp [intOf]; omega
          | true =>
            rw [hd1] at m1
            rw [hd2] at m2
            have HYY : Hid (r0 = true) := by rw [Hid, HSF.out]; exact HAY.out (by rw [hd1, hd2]; rfl)
            clear hd1 hd2 HAS HAY
            go_wp2
            go_quiet (refine Calls.quiet_of_same (code_any _ _ _ _ (by omega) (by omega) (by omega)))
            go_wp2
            go_ret
            exact ⟨by rw [HYY.out]; rfl, by rw [HB.out]; exact below_drewN HBL.out nq⟩
      · obtain rfl : k = z := by omega
        have HNN : Hid (r0 = false) := by
          have := hno.out
          rw [List.take_of_length_le (by rw [← HZ.out]; omega)] at this
          rw [Hid, HSF.out, this]
        clear hno
        go_wp2
        go_ret
        exact ⟨by rw [HNN.out]; rfl, by rw [HB.out]; exact HBL.out⟩
  · have HSU : Hid (r0 = false) := by rw [Hid, HRR.out, chB, if_neg ht]
    rw [(tel_no ht).1]
    clear ht HC HRR
    go_wp2_with fail
    go_ret
    exact ⟨by rw [HSU.out]; rfl, below_drewN (Below.refl _ _) p0⟩
end Go.Proofs.YthefnanhikjddaaDoor
