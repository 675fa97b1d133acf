/- Rings the other way have the other threes: the law FnMostBack. -/
import Derived.Test.YtamnacgclhaggaaDraw31
import Derived.Test.YtamnacgclhaggaaLawH
import Derived.Test.YtamnacgclhaggaaLawM
namespace Go.Proofs.Ytamnacgclhaggaa
open Go.ChangeShapes Go.WideShapes Go.ChangeAt Go.RowKit

set_option maxRecDepth 10000 in
set_option maxHeartbeats 4000000 in
theorem law_MostBack (a0 : Option Addr) (len0 cap0 : Nat) (z0 : List Int) (w : World) (w0 : IsRow .u8 w a0 len0 cap0 z0) :
    Calls Try.prog 4 #[.slice a0 len0 cap0] w fun e w' => e = .returned (.bool true) ∧ Below w.heap.size w w' := by
  obtain ⟨h, hlc, hcm⟩ := byt_of_row w0
  have HD := Lib.hid (drawTMostRing_any len0 cap0 w.heap.size a0 w h (Nat.le_refl _) hlc hcm)
  clear w0 h
  by_cases hn : len0 ≤ 1048576
  rotate_left
  · go_enter Try.func4, Try.ntmps4
    go_wp2_with fail
    go_ret
    exact ⟨rfl, Below.refl _ _⟩
  go_enter Try.func4, Try.ntmps4
  go_wp2_with fail
  refine HD.out.mono ?_
  rintro e w1 ⟨m, A1, n1, c1, L, rfl, hr1, ⟨hnc1, hcm1, hn8, hm3, hm10⟩, hb⟩
  have HB := Lib.hid hb
  have HR1 := Lib.hid hr1
  clear hb hr1 HD
  have HC := Lib.hid (cI_ThreeMostRingV HR1.out (m : Int))
  go_wp2_with fail
  refine HC.out.mono ?_
  rintro e w2 ⟨v, rfl, ⟨A2, n2, c2, rfl, hr⟩, hb⟩
  replace HB := Lib.hid (bl_step HB.out hb)
  replace HR1 := Lib.hid (HR1.out.step hb)
  have HR2 := Lib.hid hr
  clear hr
  clear hb HC
  have HC := Lib.hid (cN_ThreeMostRing HR1.out (m : Int))
  go_wp2_with fail
  refine HC.out.mono ?_
  rintro e w3 ⟨v, rfl, ⟨A3, n3, c3, rfl, hr⟩, hb⟩
  replace HB := Lib.hid (bl_step HB.out hb)
  replace HR1 := Lib.hid (HR1.out.step hb)
  replace HR2 := Lib.hid (HR2.out.step hb)
  have HR3 := Lib.hid hr
  clear hr
  clear hb HC
  have HS := Lib.hid (fun (W : World) (hb : Below w3.heap.size w3 W) => sameG_any (c' := c2) (d' := c3) (HR2.out.step hb) (HR3.out.step hb))
  rw [same_self] at HS
  by_cases hk : Tel (m : Int) L
  rotate_left
  · rw [(tel_no hk).1]
    clear hk HR1 HR2 HR3
    have HZ := Lib.hid (Below.refl w3.heap.size w3)
    go_wp2_with (first | (go_at_call 20; refine (HS.out _ (by first | exact HZ.out | exact HZ.out.drew)).mono ?_; rintro e wz ⟨rfl, hb⟩; replace HZ := Lib.hid (bl_step HZ.out hb); clear hb))
    go_ret
    exact ⟨rfl, bl_step HB.out HZ.out⟩
  have hkt := (tel_yes hk).1
  rw [hkt]
  clear hkt
  have h3 : 3 ≤ m := by have := hk.1; omega
  have h6 : m ≤ 6 := by have := hk.2.1; omega
  have em : mrR (m : Int) L = mostL m L := by rw [mrR, if_pos hk, Int.toNat_natCast]
  have hr := most_ring (L := L) h3 h6
  have HIN := Lib.hid (fun t (ht : t ∈ L) => in_has h3 h6 hr (hk.2.2.2 t ht))
  have HIB := Lib.hid (fun t (ht : t ∈ L) => (in_has h3 h6 (tg_ring h3 h6 hr).1 (hk.2.2.2 t ht)).trans (has3_backL h3 h6 hr (hk.2.2.2 t ht)))
  have hrb := ring_of h3 h6 hr
  have E4 : Hid (ringB (mostL m L) = true ∧ backR (mostL m L) = backL (mostL m L)) := ⟨hrb, by rw [backR, if_pos (by simpa [ringB] using hrb)]⟩
  have HLN := Lib.hid HR1.out.len
  have HT3 := Lib.hid (rows_thr hk)
  rw [em] at HR2
  clear hk hr em h3 h6 hrb
  generalize mostL m L = l at *
  have HZ := Lib.hid (Below.refl w3.heap.size w3)
  go_wp2_with (first | (go_at_call 20; refine (HS.out _ (by first | exact HZ.out | exact HZ.out.drew)).mono ?_; rintro e wz ⟨rfl, hb⟩; replace HZ := Lib.hid (bl_step HZ.out hb); clear hb))
  replace HB := Lib.hid (bl_step HB.out HZ.out)
  replace HR1 := Lib.hid (HR1.out.step HZ.out)
  replace HR2 := Lib.hid (HR2.out.step HZ.out)
  clear HR3
  clear HZ HS
  have HC := Lib.hid (cM_RingBack HR2.out)
  rw [E4.out.1, E4.out.2] at HC
  go_wp2_with fail
  refine HC.out.mono ?_
  rintro e w4 ⟨v, rfl, ⟨A5, n5, c5, rfl, hr⟩, hb⟩
  replace HB := Lib.hid (bl_step HB.out hb)
  replace HR1 := Lib.hid (HR1.out.step hb)
  replace HR2 := Lib.hid (HR2.out.step hb)
  have HR5 := Lib.hid hr
  clear hr
  clear hb HC
  have HB0 := Lib.hid HB.out
  have HL1 := Lib.hid (fun (W : World) (hb : Below w4.heap.size w4 W) => HR1.out.step hb)
  have HC := Lib.hid (fun (W : World) (hb : Below w4.heap.size w4 W) (k : Nat) (hk : k < L.length) (A' : Option Addr) (d : Nat) (h' : Rd W W.heap.size A' (rowK L k).length (rowK L k)) (hmd : (rowK L k).length ≤ d) (hdm : d ≤ 9223372036854775807) => by
    have h3 := HT3.out k hk
    have := cI_ThreeInR (HR2.out.step hb) h' (by omega) hmd hdm
    rw [HIN.out _ (rowK_mem hk)] at this
    exact this)
  have HD := Lib.hid (fun (W : World) (hb : Below w4.heap.size w4 W) (k : Nat) (hk : k < L.length) (A' : Option Addr) (d : Nat) (h' : Rd W W.heap.size A' (rowK L k).length (rowK L k)) (hmd : (rowK L k).length ≤ d) (hdm : d ≤ 9223372036854775807) => by
    have h3 := HT3.out k hk
    have := cI_ThreeInR (HR5.out.step hb) h' (by omega) hmd hdm
    rw [HIB.out _ (rowK_mem hk)] at this
    exact this)
  clear HIN HIB HR1 HR2 HR5 HB HT3 E4
  go_wp2
  go_loopw [11] (fun i wr => ∃ k : Nat, k ≤ n1 ∧ i = .int .i64 k ∧ Hid (Below w4.heap.size w4 wr)) (fun i _ => n1 - (intOf i).toNat)
  case atStart => exact ⟨0, Nat.zero_le _, rfl, Lib.hid (Below.refl _ _)⟩
  case round =>
    obtain ⟨k, hk, rfl, hbl⟩ := hrel
    by_cases hlt : k < n1
    · obtain ⟨b, o, rfl, hbH, hcs⟩ := (HL1.out wr hbl.out).rd.at_ (by omega)
      obtain ⟨Ak, ck, hc, hrk, hmd, hdm⟩ := hcs k hlt
      have hkl : k < L.length := by rw [HLN.out]; exact hlt
      have hx1 : Below wr.heap.size wr wr.drew := (Below.refl _ _).drew
      have HC1 := Lib.hid (HC.out wr.drew hbl.out.drew k hkl Ak ck hrk hmd hdm)
      have HC2 := Lib.hid (fun (W : World) (hW : Below wr.heap.size wr W) => HD.out W (hbl.out.trans (hW.mono hbl.out.size)) k hkl Ak ck ((hrk.below hW).more hW.size) hmd hdm)
      have HKC := Lib.hid (fun (W : World) (hW : Below wr.heap.size wr W) => (hW.cell (p := ⟨b, o + k, none⟩) hbH).trans hc)
      have HX1 := Lib.hid hx1
      clear hcs hrk hmd hdm hkl hc hx1
      generalize has3 l (rowK L k) = g at *
      generalize (rowK L k).length = lk at *
      go_wp2
      go_region_held3 (fun V => V.cell? ⟨b, o + k, none⟩ = some (.slice Ak lk ck))
        (first
          | exact HKC.out _ HX1.out
          | exact HKC.out _ H6.out
          | exact HKC.out _ H7.out)
        (first
          | (go_at_call_of 16 (Value.slice A5 n5 c5); refine (HC2.out _ H6.out).mono ?_; rintro e w7 ⟨rfl, hb⟩; have H7 := Lib.hid (H6.out.trans (hb.mono H6.out.size)); clear hb)
          | (go_at_call_of 16 (Value.slice A2 n2 c2); refine HC1.out.mono ?_; rintro e w6 ⟨rfl, hb⟩; have H6 := Lib.hid (HX1.out.trans (hb.mono HX1.out.size)); clear hb))
      all_goals
        have HB7 := Lib.hid (hbl.out.trans (H7.out.mono hbl.out.size))
        have hgg : (g == !g) = false := by cases g <;> rfl
        clear HC1 HC2 HKC H6 H7 HX1 hbl
        cases g
        all_goals
          go_wp2
          go_roundw
          case rel => exact ⟨k + 1, by omega, by go_num, HB7⟩
          case measure => simp [intOf]; omega
    · obtain rfl : n1 = k := by omega
      go_wp2
      go_ret
      exact ⟨rfl, bl_step HB0.out hbl.out⟩
end Go.Proofs.Ytamnacgclhaggaa
