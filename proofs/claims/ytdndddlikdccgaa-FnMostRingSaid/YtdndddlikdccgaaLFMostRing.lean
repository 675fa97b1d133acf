/- Rings with most threes have them: the law FnMostRing. -/
import Derived.Test.YtdndddlikdccgaaDraw31
import Derived.Test.YtdndddlikdccgaaLawH
namespace Go.Proofs.Ytdndddlikdccgaa
open Go.ChangeShapes Go.WideShapes Go.ChangeAt Go.RowKit

set_option maxRecDepth 10000 in
set_option maxHeartbeats 4000000 in
theorem law_MostRing (a0 : Option Addr) (len0 cap0 : Nat) (z0 : List Int) (w : World) (w0 : IsRow .u8 w a0 len0 cap0 z0) :
    Calls Try.prog 10 #[.slice a0 len0 cap0] w fun e w' => e = .returned (.bool true) ∧ Below w.heap.size w w' := by
  obtain ⟨h, hlc, hcm⟩ := byt_of_row w0
  have HD := Lib.hid (drawTMostRing_any len0 cap0 w.heap.size a0 w h (Nat.le_refl _) hlc hcm)
  clear w0 h
  by_cases hn : len0 ≤ 1048576
  rotate_left
  · go_enter Try.func10, Try.ntmps10
    go_wp2_with fail
    go_ret
    exact ⟨rfl, Below.refl _ _⟩
  go_enter Try.func10, Try.ntmps10
  go_wp2_with fail
  refine HD.out.mono ?_
  rintro e w1 ⟨m, A1, n1, c1, L, rfl, hr1, ⟨hnc1, hcm1, hn8, hm3, hm10⟩, hb⟩
  have HB := Lib.hid hb
  have HR1 := Lib.hid hr1
  clear hb hr1 HD
  have HC := Lib.hid (cI_ThreeMostRingV HR1.out (m : Int))
  go_wp2_with fail
  refine HC.out.mono ?_
  rintro e w2 ⟨v, rfl, ⟨A2, n2, c2, rfl, hr⟩, hb⟩
  replace HB := Lib.hid (bl_step HB.out hb)
  replace HR1 := Lib.hid (HR1.out.step hb)
  have HR2 := Lib.hid hr
  clear hr
  clear hb HC
  have HC := Lib.hid (cS_ThreeMostRing HR1.out (m : Int))
  go_wp2_with fail
  refine HC.out.mono ?_
  rintro e w3 ⟨v, rfl, ⟨A3, n3, c3, rfl, hr⟩, hb⟩
  replace HB := Lib.hid (bl_step HB.out hb)
  replace HR1 := Lib.hid (HR1.out.step hb)
  replace HR2 := Lib.hid (HR2.out.step hb)
  have HR3 := Lib.hid hr
  clear hr
  clear hb HC
  have HS := Lib.hid (fun (W : World) (hb : Below w3.heap.size w3 W) => sameG_any (c' := c2) (d' := c3) (HR2.out.step hb) (HR3.out.step hb))
  rw [same_self] at HS
  by_cases hk : Tel (m : Int) L
  rotate_left
  · rw [(tel_no hk).1]
    clear hk HR1 HR2 HR3
    have HZ := Lib.hid (Below.refl w3.heap.size w3)
    go_wp2_with (first | (go_at_call 22; refine (HS.out _ (by first | exact HZ.out | exact HZ.out.drew)).mono ?_; rintro e wz ⟨rfl, hb⟩; replace HZ := Lib.hid (bl_step HZ.out hb); clear hb))
    go_ret
    exact ⟨rfl, bl_step HB.out HZ.out⟩
  have hkt := (tel_yes hk).1
  have HKT := Lib.hid hkt
  rw [hkt]
  clear hkt
  have h3 : 3 ≤ m := by have := hk.1; omega
  have h6 : m ≤ 6 := by have := hk.2.1; omega
  have em : mrR (m : Int) L = mostL m L := by rw [mrR, if_pos hk, Int.toNat_natCast]
  have hr := most_ring (L := L) h3 h6
  have HIN := Lib.hid (fun t (ht : t ∈ L) => in_has h3 h6 hr (hk.2.2.2 t ht))
  have HLN := Lib.hid HR1.out.len
  have HT3 := Lib.hid (rows_thr hk)
  have ev : Hid (mvR (m : Int) L = (cntL (mostL m L) L : Nat)) := by rw [Hid, mvR, if_pos hk, Int.toNat_natCast]; exact (most_is m L h3 h6).2
  rw [em] at HR2
  clear hk hr em h3 h6
  generalize mostL m L = l at *
  have HZ := Lib.hid (Below.refl w3.heap.size w3)
  go_wp2_with (first | (go_at_call 22; refine (HS.out _ (by first | exact HZ.out | exact HZ.out.drew)).mono ?_; rintro e wz ⟨rfl, hb⟩; replace HZ := Lib.hid (bl_step HZ.out hb); clear hb))
  replace HB := Lib.hid (bl_step HB.out HZ.out)
  replace HR1 := Lib.hid (HR1.out.step HZ.out)
  replace HR2 := Lib.hid (HR2.out.step HZ.out)
  clear HR3
  clear HZ HS
  have HC := Lib.hid (cI_ThreeMost HR1.out (m : Int))
  rw [HKT.out, ev.out] at HC
  go_wp2_with fail
  refine HC.out.mono ?_
  rintro e w4 ⟨rfl, hb⟩
  replace HB := Lib.hid (bl_step HB.out hb)
  replace HR1 := Lib.hid (HR1.out.step hb)
  replace HR2 := Lib.hid (HR2.out.step hb)
  clear hb HC
  clear HKT ev
  have HB0 := Lib.hid HB.out
  have HL1 := Lib.hid (fun (W : World) (hb : Below w4.heap.size w4 W) => HR1.out.step hb)
  have HC := Lib.hid (fun (W : World) (hb : Below w4.heap.size w4 W) (k : Nat) (hk : k < L.length) (A' : Option Addr) (d : Nat) (h' : Rd W W.heap.size A' (rowK L k).length (rowK L k)) (hmd : (rowK L k).length ≤ d) (hdm : d ≤ 9223372036854775807) => by
    have h3 := HT3.out k hk
    have := cI_ThreeInR (HR2.out.step hb) h' (by omega) hmd hdm
    rw [HIN.out _ (rowK_mem hk)] at this
    exact this)

  have HST := Lib.hid (fun k (hk : k < L.length) => cnt_step l L k hk)
  have HTK := Lib.hid (fun k => cnt_take l L k)
  have HFU : Hid (L.length ≤ n1 → cntL l (L.take n1) = cntL l L) := fun h => by rw [List.take_of_length_le h]
  clear HIN HR1 HR2 HB HT3
  obtain ⟨C, hC⟩ : ∃ C, C = cntL l L := ⟨_, rfl⟩
  rw [← hC] at HFU ⊢
  have HCE := Lib.hid hC
  clear hC
  go_wp2
  go_loopw [11, 12] (fun v i wr => ∃ k z : Nat, k ≤ n1 ∧ z ≤ k ∧ Hid (z = cntL l (L.take k)) ∧ v = .int .i64 z ∧ i = .int .i64 k ∧ Hid (Below w4.heap.size w4 wr)) (fun _ i _ => n1 - (intOf i).toNat)
  case atStart => exact ⟨0, 0, Nat.zero_le _, Nat.le_refl _, rfl, rfl, rfl, Below.refl _ _⟩
  case round =>
    obtain ⟨k, z, hk, hzk, hz, rfl, rfl, hbl⟩ := hrel
    by_cases hlt : k < n1
    · obtain ⟨b, o, rfl, hbH, hcs⟩ := (HL1.out wr hbl.out).rd.at_ (by omega)
      obtain ⟨Ak, ck, hc, hrk, hmd, hdm⟩ := hcs k hlt
      have hkl : k < L.length := by rw [HLN.out]; exact hlt
      have HCk := Lib.hid (HC.out wr hbl.out k hkl _ _ hrk hmd hdm)
      have HS1 := Lib.hid (HST.out k hkl)
      clear hcs hrk hmd hdm hkl
      have hc' : wr.cell? ⟨b, o + k, none⟩ = some (.slice Ak (rowK L k).length ck) := hc
      clear hc
      generalize hG : has3 l (rowK L k) = g at *
      clear hG
      generalize (rowK L k).length = lk at *
      cases g with
      | true =>
        go_wp2_with fail
        refine HCk.out.mono ?_
        rintro e w5 ⟨rfl, hb5⟩
        have HB5 := Lib.hid (bl_step hbl.out hb5)
        clear hb5
        go_wp2
        go_roundw
        case rel => exact ⟨k + 1, z + 1, by omega, by omega, by rw [Hid, HS1.out, ← hz.out]; simp, by go_num, by go_num, HB5⟩
        case measure => simp [intOf]; omega
      | false =>
        go_wp2_with fail
        refine HCk.out.mono ?_
        rintro e w5 ⟨rfl, hb5⟩
        have HB5 := Lib.hid (bl_step hbl.out hb5)
        clear hb5
        go_wp2
        go_roundw
        case rel => exact ⟨k + 1, z, by omega, by omega, by rw [Hid, HS1.out, if_neg (by simp), ← hz.out]; rfl, by go_num, by go_num, HB5⟩
        case measure => simp [intOf]; omega
    · obtain rfl : k = n1 := by omega
      have ez : z = C := by rw [hz.out, HFU.out (by rw [HLN.out]; exact Nat.le_refl _)]
      subst ez
      go_wp2
      go_ret
      exact ⟨rfl, bl_step HB0.out hbl.out⟩
end Go.Proofs.Ytdndddlikdccgaa
