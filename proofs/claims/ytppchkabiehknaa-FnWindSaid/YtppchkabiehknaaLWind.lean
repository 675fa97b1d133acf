/- Windings there and the other way are all points; windings of rings gone the other way are what is left: the laws FnWind, FnWindBack. -/
import Derived.Test.YtppchkabiehknaaDraw5
import Derived.Test.YtppchkabiehknaaWofT
import Derived.Test.YtppchkabiehknaaWindX
import Derived.BigQuiet
import Derived.Deep.QuietTactic
namespace Go.Proofs.Ytppchkabiehknaa
open Go.ChangeShapes Go.WideShapes Go.ChangeAt Go.RowKit

theorem u8_in5 {v : Int} (h : (Lit.int .u8 v).wf = true) : 0 ≤ v ∧ v < 256 := by
  have e : IntKind.u8.min ≤ v ∧ v ≤ IntKind.u8.max := by simpa [Lit.wf] using h
  simp [IntKind.min, IntKind.max, IntKind.signed, IntKind.bits] at e
  omega
theorem byt_of_row5 {w : World} {a : Option Addr} {len cap : Nat} {zs : List Int} (h : IsRow .u8 w a len cap zs) : Byt w w.heap.size a len ∧ len ≤ cap ∧ cap ≤ 9223372036854775807 := by
  rcases h with ⟨rfl, rfl, rfl, rfl⟩ | ⟨x, rfl, hl, hm, hz, hcell, hwf⟩
  · exact ⟨fun h => absurd h (by omega), by omega, by omega⟩
  · unfold maxLen at hm
    refine ⟨fun hp => ?_, hl, hm⟩
    obtain ⟨b, off, spot⟩ := x
    have hc := hcell 0 (by omega)
    have hspot : spot = none := by simpa [Addr.add] using World.cell?_spot hc
    subst hspot
    refine ⟨b, off, rfl, World.block_lt_of_cell? w ⟨b, off, none⟩ (by simpa [Addr.add] using hc), fun k hk => ?_⟩
    have h1 := hcell k (by omega)
    have h2 := u8_in5 (hwf _ (getD_mem zs k (by omega)))
    rw [Addr.add_lit] at h1
    exact ⟨(zs.getD k 0).toNat, by omega, by rw [h1, Int.toNat_of_nonneg h2.1]⟩

set_option maxHeartbeats 400000 in
theorem sameInts_drew (A B : Option Addr) (n m c d : Nat) (xs ys : List Int) (H : Nat) (w : World) (hx : Rd w H A n xs) (hy : Rd w H B m ys) (hn : n ≤ 1048576) (_ : m ≤ 1048576) :
    Calls Try.prog 17 #[.slice A n c, .slice B m d] w fun e w' => e = .returned (.bool (same xs ys)) ∧ ∃ m, w' = w.drewN m := by
  have hlx := Lib.hid hx.len
  have hly := Lib.hid hy.len
  by_cases hnm : n = m
  · obtain ⟨r, hr⟩ : ∃ r, r = same xs ys := ⟨_, rfl⟩
    rw [← hr]
    have HR := Lib.hid hr
    clear hr
    subst hnm
    go_enter Try.func17, Try.ntmps17
    go_wp2
    go_loopw [5] (fun i wr => ∃ k : Nat, k ≤ n ∧ i = .int .i64 k ∧ Hid (xs.take k = ys.take k) ∧ Rd wr H A n xs ∧ Rd wr H B n ys ∧ ∃ q, wr = w.drewN q) (fun i _ => n - (intOf i).toNat)
    case atStart => exact ⟨0, Nat.zero_le _, rfl, by simp [Hid], hx, hy, 0, rfl⟩
    case round =>
      obtain ⟨k, hk, rfl, htk, hrx, hry, q, hbl⟩ := hrel
      have HBL := Lib.hid hbl
      clear hbl
      by_cases hlt : k < n
      · obtain ⟨b, o, rfl, hbB, hcs⟩ := hrx.at_ (by omega)
        obtain ⟨b', o', rfl, hbB', hcs'⟩ := hry.at_ (by omega)
        have hc := hcs k hlt
        have hc' := hcs' k hlt
        have T1 := Lib.hid (take_eq_step xs ys k (by rw [hlx.out]; exact hlt) (by rw [hly.out]; exact hlt) htk.out)
        have T2 : Hid (xs.getD k 0 ≠ ys.getD k 0 → xs ≠ ys) := fun h e => h (by rw [e])
        clear hcs hcs' hx hy
        generalize xs.getD k 0 = x at hc T1 T2
        generalize ys.getD k 0 = y at hc' T1 T2
        by_cases hxy : x = y
        · have hb : (x != y) = false := by simp [hxy]
          have T3 := Lib.hid (T1.out hxy)
          clear hxy T1 T2
          go_wp2
          go_quiet (fail)
          go_wp2
          go_roundw
          case rel => exact ⟨k + 1, by omega, by go_num, T3, hrx.drewN _, hry.drewN _, q + nq, by rw [HBL.out, World.drewN_drewN]⟩
          case measure => simp [intOf]; omega
        · have hb : (x != y) = true := by simp [hxy]
          have T3 := Lib.hid (T2.out hxy)
          clear hxy T1 T2
          go_wp2
          go_quiet (fail)
          go_wp2
          go_ret
          exact ⟨by rw [HR.out]; simp [same, T3.out], q + nq, by rw [HBL.out, World.drewN_drewN]⟩
      · go_wp2
        go_ret
        obtain rfl : k = n := by omega
        have e : xs = ys := by
          have := htk.out
          rwa [List.take_of_length_le (by rw [hlx.out]; omega), List.take_of_length_le (by rw [hly.out]; omega)] at this
        exact ⟨by rw [HR.out]; simp [same, e], q, HBL.out⟩
  · have hr : same xs ys = false := by
      simp only [same, decide_eq_false_iff_not]
      rintro rfl
      exact hnm (hlx.out.symm.trans hly.out)
    rw [hr]
    have hb : ((n : Int) != (m : Int)) = true := by simp; omega
    clear hr hnm
    go_enter Try.func17, Try.ntmps17
    go_wp2
    go_ret
    exact ⟨rfl, 0, rfl⟩


set_option maxRecDepth 10000 in
set_option maxHeartbeats 4000000 in
theorem law_Wind (a0 : Option Addr) (len0 cap0 : Nat) (z0 : List Int) (w : World) (w0 : IsRow .u8 w a0 len0 cap0 z0) :
    Calls Try.prog 3 #[.slice a0 len0 cap0] w fun e w' => e = .returned (.bool true) ∧ Below w.heap.size w w' := by
  obtain ⟨h, hlc, hcm⟩ := byt_of_row5 w0
  have HD := Lib.hid (drawWind_any len0 cap0 w.heap.size a0 w h (Nat.le_refl _) hlc hcm)
  clear w0 h
  by_cases hn : len0 ≤ 1048576
  rotate_left
  · go_enter Try.func3, Try.ntmps3
    go_wp2_with fail
    go_ret
    exact ⟨rfl, Below.refl _ _⟩
  go_enter Try.func3, Try.ntmps3
  go_wp2_with fail
  refine HD.out.mono ?_
  rintro e w1 ⟨v, v', l, l', rfl, hv, hv', ⟨hl, hl'⟩, hb1⟩
  obtain ⟨A, c, e, hnc, hcm1⟩ := hv.2
  subst e
  obtain ⟨A', c', e, hnc', hcm1'⟩ := hv'.2
  subst e
  have HR := Lib.hid hv.1.rd.2
  have HR' := Lib.hid hv'.1.rd.2
  have HB1 := Lib.hid hb1
  have hs1 := hb1.size
  clear hv hv' hb1 HD
  have HCI := Lib.hid (woI_any A l.length c A' l'.length c' w1.heap.size l l' w1 HR.out HR'.out (Nat.le_refl _) (by omega) (by omega) hnc hcm1 hnc' hcm1')
  have HCS := Lib.hid (fun W (hb : Below w1.heap.size w1 W) => woS_any A l.length c A' l'.length c' w1.heap.size l l' W (HR.out.below hb) (HR'.out.below hb) hb.size (by omega) (by omega))
  go_wp2_with fail
  refine HCI.out.mono ?_
  rintro e w2 ⟨rfl, hb2⟩
  have HB2 := Lib.hid hb2
  clear hb2 HCI
  go_wp2_with fail
  refine (HCS.out w2 HB2.out).mono ?_
  rintro e w3 ⟨rfl, hb3⟩
  have HB3 := Lib.hid (HB2.out.trans (hb3.mono HB2.out.size))
  clear hb3 HB2 HCS
  by_cases h2 : TwoR l l'
  rotate_left
  · rw [woR, if_neg h2, twoNo h2]
    clear h2
    go_wp2
    go_ret
    exact ⟨rfl, HB1.out.trans (HB3.out.mono (by omega))⟩
  rw [woR, if_pos h2, twoYes h2]
  have hw := wind_by_back h2.w2
  have hge := wind_ge h2.w2
  have hbd := windL_bd l l' (by have := h2.1.1.1; omega) h2.2.2
  have hone := wind_one h2.w2 h2.1.2 h2.2.1.2
  have h2' : TwoR l (backL l') := ⟨h2.1, backL_ring' h2.2.1, by rw [backL_length]; exact h2.2.2⟩
  have E1 : Hid (ringB l' = true ∧ backR l' = backL l') := ⟨ring_yes h2.2.1, by rw [backR, if_pos h2.2.1]⟩
  have E2 : Hid (twoB l (backL l') = true ∧ woR l (backL l') = (l.length : Int) - windL l l') := ⟨twoYes h2', by rw [woR, if_pos h2', hw]⟩
  have E3 : Hid (same l l' = decide (windL l l' = 1)) := by rw [Hid, same, decide_eq_decide]; exact hone.symm
  have HBK := Lib.hid (bkI_any A' l'.length c' w1.heap.size l' w3 (HR'.out.below HB3.out) HB3.out.size (by omega) hnc' hcm1')
  rw [E1.out.1, E1.out.2] at HBK
  clear h2 h2' hw hone
  generalize windL l l' = r at *
  go_wp2_with fail
  refine HBK.out.mono ?_
  rintro e w4 ⟨vb, rfl, ho, hb4⟩
  have HB4 := Lib.hid (HB3.out.trans (hb4.mono HB3.out.size))
  obtain ⟨hog, Ab, cb, e, hnb, hcb⟩ := ho.rowV5
  rw [backL_length] at e hnb
  subst e
  have HRB := Lib.hid (show Rd w4 w4.heap.size Ab l'.length (backL l') by have := hog.rd.2; exact this)
  have HCB := Lib.hid (woI_any A l.length c Ab l'.length cb w4.heap.size l (backL l') w4 ((HR.out.below HB4.out).more (HB4.out.size)) HRB.out (Nat.le_refl _) (by omega) (by omega) hnc hcm1 hnb hcb)
  rw [E2.out.1, E2.out.2] at HCB
  clear ho hb4 hog HB3 HBK
  go_wp2_with fail
  refine HCB.out.mono ?_
  rintro e w5 ⟨rfl, hb5⟩
  have HB5 := Lib.hid (HB4.out.trans (hb5.mono HB4.out.size))
  have HSI := Lib.hid (sameInts_drew A A' l.length l'.length c c' l l' w1.heap.size w5 (HR.out.below HB5.out) (HR'.out.below HB5.out) (by omega) (by omega))
  rw [E3.out] at HSI
  have hsum : IntKind.i64.wrap (r + ((l.length : Int) - r)) = (l.length : Int) := by rw [IntWalk.i64_in _ (by omega)]; omega
  clear hb5 HB4 HCB HRB E1 E2 E3
  by_cases hr1 : r = 1
  · have hd : decide (r = 1) = true := by simpa using hr1
    rw [hd] at HSI
    have hb : (r == 1) = true := by simpa using hr1
    clear hd
    go_wp2_with (go_at_call 17; refine HSI.out.mono ?_; rintro e w6 ⟨rfl, p6, rfl⟩)
    go_ret
    exact ⟨rfl, HB1.out.trans ((below_drewN HB5.out _).mono (by omega))⟩
  · have hd : decide (r = 1) = false := by simpa using hr1
    rw [hd] at HSI
    have hb : (r == 1) = false := by simpa using hr1
    clear hd
    go_wp2_with (go_at_call 17; refine HSI.out.mono ?_; rintro e w6 ⟨rfl, p6, rfl⟩)
    go_ret
    exact ⟨rfl, HB1.out.trans ((below_drewN HB5.out _).mono (by omega))⟩

set_option maxRecDepth 10000 in
set_option maxHeartbeats 4000000 in
theorem law_WindBack (a0 : Option Addr) (len0 cap0 : Nat) (z0 : List Int) (w : World) (w0 : IsRow .u8 w a0 len0 cap0 z0) :
    Calls Try.prog 4 #[.slice a0 len0 cap0] w fun e w' => e = .returned (.bool true) ∧ Below w.heap.size w w' := by
  obtain ⟨h, hlc, hcm⟩ := byt_of_row5 w0
  have HD := Lib.hid (drawWind_any len0 cap0 w.heap.size a0 w h (Nat.le_refl _) hlc hcm)
  clear w0 h
  by_cases hn : len0 ≤ 1048576
  rotate_left
  · go_enter Try.func4, Try.ntmps4
    go_wp2_with fail
    go_ret
    exact ⟨rfl, Below.refl _ _⟩
  go_enter Try.func4, Try.ntmps4
  go_wp2_with fail
  refine HD.out.mono ?_
  rintro e w1 ⟨v, v', l, l', rfl, hv, hv', ⟨hl, hl'⟩, hb1⟩
  obtain ⟨A, c, e, hnc, hcm1⟩ := hv.2
  subst e
  obtain ⟨A', c', e, hnc', hcm1'⟩ := hv'.2
  subst e
  have HR := Lib.hid hv.1.rd.2
  have HR' := Lib.hid hv'.1.rd.2
  have HB1 := Lib.hid hb1
  have hs1 := hb1.size
  clear hv hv' hb1 HD
  have HCI := Lib.hid (woI_any A l.length c A' l'.length c' w1.heap.size l l' w1 HR.out HR'.out (Nat.le_refl _) (by omega) (by omega) hnc hcm1 hnc' hcm1')
  have HCS := Lib.hid (fun W (hb : Below w1.heap.size w1 W) => woS_any A l.length c A' l'.length c' w1.heap.size l l' W (HR.out.below hb) (HR'.out.below hb) hb.size (by omega) (by omega))
  go_wp2_with fail
  refine HCI.out.mono ?_
  rintro e w2 ⟨rfl, hb2⟩
  have HB2 := Lib.hid hb2
  clear hb2 HCI
  go_wp2_with fail
  refine (HCS.out w2 HB2.out).mono ?_
  rintro e w3 ⟨rfl, hb3⟩
  have HB3 := Lib.hid (HB2.out.trans (hb3.mono HB2.out.size))
  clear hb3 HB2 HCS
  by_cases h2 : TwoR l l'
  rotate_left
  · rw [woR, if_neg h2, twoNo h2]
    clear h2
    go_wp2
    go_ret
    exact ⟨rfl, HB1.out.trans (HB3.out.mono (by omega))⟩
  rw [woR, if_pos h2, twoYes h2]
  have hw := wind_back h2.w2
  have hbd := windL_bd l l' (by have := h2.1.1.1; omega) h2.2.2
  have h2' : TwoR (backL l) l' := ⟨backL_ring' h2.1, h2.2.1, by rw [backL_length]; exact h2.2.2⟩
  have E1 : Hid (ringB l = true ∧ backR l = backL l) := ⟨ring_yes h2.1, by rw [backR, if_pos h2.1]⟩
  have E2 : Hid (twoB (backL l) l' = true ∧ woR (backL l) l' = (l.length : Int) - windL l l') := ⟨twoYes h2', by rw [woR, if_pos h2', hw]⟩
  have HBK := Lib.hid (bkI_any A l.length c w1.heap.size l w3 (HR.out.below HB3.out) HB3.out.size (by omega) hnc hcm1)
  rw [E1.out.1, E1.out.2] at HBK
  clear h2 h2' hw
  generalize windL l l' = r at *
  go_wp2_with fail
  refine HBK.out.mono ?_
  rintro e w4 ⟨vb, rfl, ho, hb4⟩
  have HB4 := Lib.hid (HB3.out.trans (hb4.mono HB3.out.size))
  obtain ⟨hog, Ab, cb, e, hnb, hcb⟩ := ho.rowV5
  rw [backL_length] at e hnb
  subst e
  have HRB := Lib.hid (show Rd w4 w4.heap.size Ab l.length (backL l) by have := hog.rd.2; exact this)
  have HCB := Lib.hid (woI_any Ab l.length cb A' l'.length c' w4.heap.size (backL l) l' w4 HRB.out ((HR'.out.below HB4.out).more (HB4.out.size)) (Nat.le_refl _) (by omega) (by omega) hnb hcb hnc' hcm1')
  rw [E2.out.1, E2.out.2] at HCB
  clear ho hb4 hog HB3 HBK
  go_wp2_with fail
  refine HCB.out.mono ?_
  rintro e w5 ⟨rfl, hb5⟩
  have HB5 := Lib.hid (HB4.out.trans (hb5.mono HB4.out.size))
  have hsum : IntKind.i64.wrap (r + ((l.length : Int) - r)) = (l.length : Int) := by rw [IntWalk.i64_in _ (by omega)]; omega
  clear hb5 HB4 HCB HRB E1 E2
  go_wp2_with fail
  go_ret
  exact ⟨rfl, HB1.out.trans (HB5.out.mono (by omega))⟩
end Go.Proofs.Ytppchkabiehknaa
