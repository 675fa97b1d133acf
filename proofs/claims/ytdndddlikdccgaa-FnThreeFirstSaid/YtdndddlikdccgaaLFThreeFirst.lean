/- First rings agree: the law FnThreeFirst. -/
import Derived.Test.YtdndddlikdccgaaDraw31
import Derived.Test.YtdndddlikdccgaaLawH
import Derived.Test.YtdndddlikdccgaaTgC
namespace Go.Proofs.Ytdndddlikdccgaa
open Go.ChangeShapes Go.WideShapes Go.ChangeAt Go.RowKit

set_option maxRecDepth 10000 in
set_option maxHeartbeats 4000000 in
theorem law_ThreeFirst (a0 : Option Addr) (len0 cap0 : Nat) (z0 : List Int) (w : World) (w0 : IsRow .u8 w a0 len0 cap0 z0) :
    Calls Try.prog 7 #[.slice a0 len0 cap0] w fun e w' => e = .returned (.bool true) ∧ Below w.heap.size w w' := by
  obtain ⟨h, hlc, hcm⟩ := byt_of_row w0
  have HD := Lib.hid (drawTThreeFirst_any len0 cap0 w.heap.size a0 w h (Nat.le_refl _) hlc hcm)
  clear w0 h
  by_cases hn : len0 ≤ 1048576
  rotate_left
  · go_enter Try.func7, Try.ntmps7
    go_wp2_with fail
    go_ret
    exact ⟨rfl, Below.refl _ _⟩
  go_enter Try.func7, Try.ntmps7
  go_wp2_with fail
  refine HD.out.mono ?_
  rintro e w1 ⟨m, A1, n1, c1, L, rfl, hr1, ⟨hnc1, hcm1, hn8, hm3, hm10⟩, hb⟩
  have HB := Lib.hid hb
  have HR1 := Lib.hid hr1
  clear hb hr1 HD
  have HC := Lib.hid (cI_ThreeFirstV HR1.out (m : Int))
  go_wp2_with fail
  refine HC.out.mono ?_
  rintro e w2 ⟨v, rfl, ⟨A2, n2, c2, rfl, hr⟩, hb⟩
  replace HB := Lib.hid (bl_step HB.out hb)
  replace HR1 := Lib.hid (HR1.out.step hb)
  have HR2 := Lib.hid hr
  clear hr
  clear hb HC
  have HC := Lib.hid (cS_ThreeFirst HR1.out (m : Int))
  go_wp2_with fail
  refine HC.out.mono ?_
  rintro e w3 ⟨v, rfl, ⟨A3, n3, c3, rfl, hr⟩, hb⟩
  replace HB := Lib.hid (bl_step HB.out hb)
  replace HR1 := Lib.hid (HR1.out.step hb)
  replace HR2 := Lib.hid (HR2.out.step hb)
  have HR3 := Lib.hid hr
  clear hr
  clear hb HC
  have HS := Lib.hid (fun (W : World) (hb : Below w3.heap.size w3 W) => sameG_any (c' := c2) (d' := c3) (HR2.out.step hb) (HR3.out.step hb))
  rw [same_self] at HS
  by_cases hk : fsB (m : Int) L = true
  rotate_left
  · rw [(by simpa using hk : fsB (m : Int) L = false)]
    clear hk HR1 HR2 HR3
    have HZ := Lib.hid (Below.refl w3.heap.size w3)
    go_wp2_with (first | (go_at_call 22; refine (HS.out _ (by first | exact HZ.out | exact HZ.out.drew)).mono ?_; rintro e wz ⟨rfl, hb⟩; replace HZ := Lib.hid (bl_step HZ.out hb); clear hb))
    go_ret
    exact ⟨rfl, bl_step HB.out HZ.out⟩
  rw [hk]
  obtain ⟨ht, hr, hag, hlen, hpos⟩ := first_told hk
  have hno : chB (m : Int) L = false := by
    cases e : chB (m : Int) L with
    | false => rfl
    | true =>
      have := (clash_told e).2
      rw [this] at hpos
      simp at hpos
  have HRG := Lib.hid (ring_of (by have := ht.1; omega) (by have := ht.2.1; omega) hr)
  have HNO := Lib.hid hno
  have HAG := Lib.hid hag
  have HLN := Lib.hid HR1.out.len
  have HT3 := Lib.hid (rows_thr ht)
  have hlen2 := HR2.out.len
  have hnm : (n2 : Int) = (m : Int) := by rw [← hlen, hlen2]
  have hnn : ((n2 : Int) == (m : Int)) = true := by rw [hnm]; simp
  clear hk ht hr hag hlen hpos hno hlen2 hnm
  generalize fsR (m : Int) L = l at *
  have HZ := Lib.hid (Below.refl w3.heap.size w3)
  go_wp2_with (first | (go_at_call 22; refine (HS.out _ (by first | exact HZ.out | exact HZ.out.drew)).mono ?_; rintro e wz ⟨rfl, hb⟩; replace HZ := Lib.hid (bl_step HZ.out hb); clear hb))
  replace HB := Lib.hid (bl_step HB.out HZ.out)
  replace HR1 := Lib.hid (HR1.out.step HZ.out)
  replace HR2 := Lib.hid (HR2.out.step HZ.out)
  clear HR3
  clear HZ HS
  have HB0 := Lib.hid HB.out
  have HL1 := Lib.hid (fun (W : World) (hb : Below wz.heap.size wz W) => HR1.out.step hb)
  have HC := Lib.hid (fun (W : World) (hb : Below wz.heap.size wz W) (k : Nat) (hk : k < L.length) (A' : Option Addr) (d : Nat) (h' : Rd W W.heap.size A' (rowK L k).length (rowK L k)) (hmd : (rowK L k).length ≤ d) (hdm : d ≤ 9223372036854775807) => by
    have h3 := HT3.out k hk
    have := cI_ThreeInR (HR2.out.step hb) h' (by omega) hmd hdm
    rw [HAG.out _ (rowK_mem hk)] at this
    exact this)

  have HI := Lib.hid (fun (W : World) (hb : Below wz.heap.size wz W) => by
    have := cI_RingInG (HR2.out.step hb)
    rw [HRG.out] at this
    exact this)
  have HCL := Lib.hid (fun (W : World) (hb : Below wz.heap.size wz W) => by
    have := cI_ThreeClash (HR1.out.step hb) (m : Int)
    rw [HNO.out] at this
    exact this)
  clear HAG HR1 HR2 HB HRG HNO HT3
  go_loopw [9] (fun i wr => ∃ k : Nat, k ≤ n1 ∧ i = .int .i64 k ∧ Hid (Below wz.heap.size wz wr)) (fun i _ => n1 - (intOf i).toNat)
  case atStart => exact ⟨0, Nat.zero_le _, rfl, Below.refl _ _⟩
  case round =>
    obtain ⟨k, hk, rfl, hbl⟩ := hrel
    by_cases hlt : k < n1
    · obtain ⟨b, o, rfl, hbH, hcs⟩ := (HL1.out wr hbl.out).rd.at_ (by omega)
      obtain ⟨Ak, ck, hc, hrk, hmd, hdm⟩ := hcs k hlt
      have HCk := Lib.hid (HC.out wr hbl.out k (by rw [HLN.out]; exact hlt) _ _ hrk hmd hdm)
      clear hcs hrk hmd hdm
      generalize (rowK L k).length = lk at *
      go_wp2_with fail
      refine HCk.out.mono ?_
      rintro e w5 ⟨rfl, hb5⟩
      have HB5 := Lib.hid (bl_step hbl.out hb5)
      clear hb5
      go_wp2
      go_roundw
      case rel => exact ⟨k + 1, by omega, by go_num, HB5⟩
      case measure => simp [intOf]; omega
    · obtain rfl : k = n1 := by omega
      have HIk := Lib.hid (HI.out wr hbl.out)
      go_wp2_with fail
      refine HIk.out.mono ?_
      rintro e w5 ⟨rfl, hb5⟩
      have HB5 := Lib.hid (bl_step hbl.out hb5)
      have HCk := Lib.hid (HCL.out w5 HB5.out)
      clear hb5 HIk HI HCL HC HL1
      go_wp2_with fail
      refine HCk.out.mono ?_
      rintro e w6 ⟨rfl, hb6⟩
      have HB6 := Lib.hid (bl_step HB5.out hb6)
      clear hb6
      go_wp2
      go_ret
      exact ⟨rfl, bl_step HB0.out HB6.out⟩
end Go.Proofs.Ytdndddlikdccgaa
