/- Each four points have one pattern: the law FnPatternAll. -/
import Derived.Test.YtmfilnpbkonfaabDoorDraw22
import Derived.Test.YtmfilnpbkonfaabDoorPnN
import Derived.Test.YtmfilnpbkonfaabDoorLaw8A
import Derived.Test.YtmfilnpbkonfaabDoorLaw8B
import Derived.Test.YtmfilnpbkonfaabDoorSameI
namespace Go.Proofs.YtmfilnpbkonfaabDoor
open Go.ChangeShapes Go.WideShapes Go.ChangeAt Go.RowKit

set_option maxRecDepth 10000 in
set_option maxHeartbeats 4000000 in
theorem law_PatternAll (a0 : Option Addr) (len0 cap0 : Nat) (z0 : List Int) (w : World) (w0 : IsRow .u8 w a0 len0 cap0 z0) (hTAB : Tab w) :
    Calls Tryd.prog 6 #[.slice a0 len0 cap0] w fun e w' => e = .returned (.bool true) ∧ Below w.heap.size w w' := by
  obtain ⟨h, hlc, hcm⟩ := byt_of_row w0
  have HD := Lib.hid (drawPatternAll_any len0 cap0 w.heap.size a0 w h (Nat.le_refl _) hlc hcm)
  clear w0 h
  by_cases hn : len0 ≤ 1048576
  rotate_left
  · go_enter Tryd.func6, Tryd.ntmps6
    go_wp2_with fail
    go_ret
    exact ⟨rfl, Below.refl _ _⟩
  go_enter Tryd.func6, Tryd.ntmps6
  go_wp2_with fail
  refine HD.out.mono ?_
  rintro e w1 ⟨v, l, rfl, ⟨A1, n1, c1, rfl, hr1⟩, hl, hb⟩
  have HB := Lib.hid hb
  have HR1 := Lib.hid hr1
  have HRT := Lib.hid (hTAB.step hb)
  clear hTAB
  clear hb hr1 HD
  have HC := Lib.hid (cI_PatternAll HR1.out HRT.out)
  go_wp2_with fail
  refine HC.out.mono ?_
  rintro e w2 ⟨v, rfl, ⟨A2, n2, c2, rfl, hr⟩, hb⟩
  replace HB := Lib.hid (bl_step HB.out hb)
  replace HR1 := Lib.hid (HR1.out.step hb)
  replace HRT := Lib.hid (HRT.out.step hb)
  have HR2 := Lib.hid hr
  clear hr
  clear hb HC
  have HC := Lib.hid (cS_PatternAll HR1.out)
  go_wp2_with fail
  refine HC.out.mono ?_
  rintro e w3 ⟨v, rfl, ⟨A3, n3, c3, rfl, hr⟩, hb⟩
  replace HB := Lib.hid (bl_step HB.out hb)
  replace HR1 := Lib.hid (HR1.out.step hb)
  replace HRT := Lib.hid (HRT.out.step hb)
  replace HR2 := Lib.hid (HR2.out.step hb)
  have HR3 := Lib.hid hr
  clear hr
  clear hb HC
  have HS := Lib.hid (fun (W : World) (hb : Below w3.heap.size w3 W) => sameG_any (c' := c2) (d' := c3) (HR2.out.step hb) (HR3.out.step hb))
  rw [same_self] at HS
  by_cases hk : Apl l
  rotate_left
  · rw [aplB_no hk]
    clear hk HR1 HRT HR2 HR3
    have HZ := Lib.hid (Below.refl w3.heap.size w3)
    go_wp2_with (first | (go_at_call 12; refine (HS.out _ (by first | exact HZ.out | exact HZ.out.drew)).mono ?_; rintro e wz ⟨rfl, hb⟩; replace HZ := Lib.hid (bl_step HZ.out hb); clear hb))
    go_ret
    exact ⟨rfl, bl_step HB.out HZ.out⟩
  rw [aplB_yes hk]
  have ER : aplR l = aplK l 6 := by rw [aplR, if_pos hk]
  rw [ER] at HR2
  have hkb : Apl (backL l) := ⟨backL_ring' hk.1, by rw [backL_length]; exact hk.2⟩
  have E1 : Hid (ringB l = true ∧ backR l = backL l) := ⟨ring_yes hk.1, by rw [backR, if_pos hk.1]⟩
  have E2 : Hid (aplB (backL l) = true ∧ aplR (backL l) = aplK (backL l) 6) := ⟨aplB_yes hkb, by rw [aplR, if_pos hkb]⟩
  have E3 : Hid (sumS (aplK l 6) 6 = (chN l.length 4 : Int)) := apl_sum hk.1.1 hk.2
  have E4 := Lib.hid (fun (k : Nat) (hk' : k < 6) => apl_back hk.1.1 k hk')
  have E5 : Hid (∀ k, 0 ≤ (aplK l 6).getD k 0 ∧ (aplK l 6).getD k 0 ≤ 1000) := fun k => by
    rcases Nat.lt_or_ge k 6 with h | h
    · rw [aplK_get l k h]
      have := mny_le (byL 4 (k : Int)) hk.1.1.2.1
      omega
    · have : (aplK l 6).getD k 0 = 0 := by rw [List.getD, List.getElem?_eq_none (by rw [aplK_len]; exact h)]; rfl
      omega
  have E6 : Hid (4 ≤ l.length ∧ l.length ≤ 7) := ⟨hk.2, hk.1.1.2.1⟩
  clear hk hkb ER
  have HZ := Lib.hid (Below.refl w3.heap.size w3)
  go_wp2_with (first | (go_at_call 12; refine (HS.out _ (by first | exact HZ.out | exact HZ.out.drew)).mono ?_; rintro e wz ⟨rfl, hb⟩; replace HZ := Lib.hid (bl_step HZ.out hb); clear hb))
  replace HB := Lib.hid (bl_step HB.out HZ.out)
  replace HR1 := Lib.hid (HR1.out.step HZ.out)
  replace HRT := Lib.hid (HRT.out.step HZ.out)
  replace HR2 := Lib.hid (HR2.out.step HZ.out)
  clear HR3
  clear HZ HS
  have HC := Lib.hid (c8I_RingBack HR1.out)
  rw [E1.out.1, E1.out.2] at HC
  go_wp2_with fail
  refine HC.out.mono ?_
  rintro e w4 ⟨v, rfl, ⟨A4, n4, c4, rfl, hr⟩, hb⟩
  replace HB := Lib.hid (bl_step HB.out hb)
  replace HR1 := Lib.hid (HR1.out.step hb)
  replace HRT := Lib.hid (HRT.out.step hb)
  replace HR2 := Lib.hid (HR2.out.step hb)
  have HR4 := Lib.hid hr
  clear hr
  clear hb HC
  have HC := Lib.hid (cI_PatternAll HR4.out HRT.out)
  rw [E2.out.1, E2.out.2] at HC
  go_wp2_with fail
  refine HC.out.mono ?_
  rintro e w5 ⟨v, rfl, ⟨A5, n5, c5, rfl, hr⟩, hb⟩
  replace HB := Lib.hid (bl_step HB.out hb)
  replace HR1 := Lib.hid (HR1.out.step hb)
  clear HRT
  replace HR2 := Lib.hid (HR2.out.step hb)
  clear HR4
  have HR5 := Lib.hid hr
  clear hr
  clear hb HC
  have hn1 := HR1.out.len
  have hn2 := HR2.out.len
  have hn5 := HR5.out.len
  rw [aplK_len] at hn2 hn5
  subst hn2
  subst hn5
  clear E1 E2
  have HZ0 := Lib.hid (Below.refl w5.heap.size w5)
  go_wp2
  go_loopw [13] (fun i wr => ∃ k : Nat, k ≤ 6 ∧ i = .int .i64 k ∧ Hid (Rw wr A2 6 6 (aplK l 6)) ∧ Hid (Rw wr A5 6 6 (aplK (backL l) 6)) ∧ Hid (Below w5.heap.size w5 wr)) (fun i _ => 6 - (intOf i).toNat)
  case atStart => exact ⟨0, Nat.zero_le _, rfl, HR2, HR5, HZ0⟩
  case round =>
    obtain ⟨k, hk, rfl, hR2, hR5, hZ⟩ := hrel
    clear HR2 HR5 HZ0
    by_cases hlt : k < 6
    · obtain ⟨f1, f2, f3, f4, f5, f6⟩ := four_numbers ⟨k, hlt⟩
      simp only at f1 f2 f3 f4 f5 f6
      have G1 : Hid (byR 4 (k : Int) = byL 4 (k : Int)) := by rw [Hid, byR, if_pos f1]; rfl
      have G2 : Hid (backR (byL 4 (k : Int)) = backL (byL 4 (k : Int))) := by
        have : Ring (byL 4 (k : Int)) := by simpa [ringB] using f2
        rw [Hid, backR, if_pos this]
      have G3 : Hid (numR (backL (byL 4 (k : Int))) = (jN k : Int)) := by
        have : Ring (backL (byL 4 (k : Int))) := by simpa [ringB] using f3
        rw [Hid, numR, if_pos this, backL_length, byL_length, f4]
      have HE := E4.out k hlt
      have HC1 := Lib.hid (c8I_RingBy 4 (k : Int) wr)
      rw [f1, G1.out] at HC1
      have F2 := Lib.hid f2
      have F3 := Lib.hid f3
      clear f1 f2 f3 f4 f6
      generalize hj : jN k = j at *
      clear hj
      go_wp2_with fail
      refine HC1.out.mono ?_
      rintro e wa ⟨va, rfl, ⟨Aa, na, ca, rfl, hra⟩, hba⟩
      have HRa := Lib.hid hra
      have HR2a := Lib.hid (hR2.out.step hba)
      have HR5a := Lib.hid (hR5.out.step hba)
      have HZa := Lib.hid (bl_step hZ.out hba)
      clear hra hba HC1 hR2 hR5 hZ
      have HC2 := Lib.hid (c8I_RingBack HRa.out)
      rw [F2.out, G2.out] at HC2
      go_wp2_with fail
      refine HC2.out.mono ?_
      rintro e wb ⟨vb, rfl, ⟨Ab, nb, cb, rfl, hrb⟩, hbb⟩
      have HRb := Lib.hid hrb
      have HR2b := Lib.hid (HR2a.out.step hbb)
      have HR5b := Lib.hid (HR5a.out.step hbb)
      have HZb := Lib.hid (bl_step HZa.out hbb)
      clear hrb hbb HC2 HR2a HR5a HZa HRa F2
      have HC3 := Lib.hid (c8I_RingNumber HRb.out)
      rw [F3.out, G3.out] at HC3
      go_wp2_with fail
      refine HC3.out.mono ?_
      rintro e wc ⟨rfl, hbc⟩
      have HR2c := Lib.hid (HR2b.out.step hbc)
      have HR5c := Lib.hid (HR5b.out.step hbc)
      have HZc := Lib.hid (bl_step HZb.out hbc)
      clear hbc HC3 HR2b HR5b HZb HRb F3 G1 G2 G3
      obtain ⟨b2, o2, e2, hb2, hcs2⟩ := HR2c.out.at_ (by omega)
      obtain ⟨b5, o5, e5, hb5, hcs5⟩ := HR5c.out.at_ (by omega)
      have d2 := hcs2 k hlt
      have d5 := hcs5 j f5
      rw [HE] at d5
      subst e2
      subst e5
      clear hcs2 hcs5 HE hb2 hb5
      generalize (aplK l 6).getD k 0 = y at *
      have hne : (y != y) = false := by simp
      go_wp2_with fail
      go_quiet (fail)
      have HR2d := Lib.hid (HR2c.out.step (below_drewN (Below.refl wc.heap.size wc) nq))
      have HR5d := Lib.hid (HR5c.out.step (below_drewN (Below.refl wc.heap.size wc) nq))
      have HZd := Lib.hid (below_drewN HZc.out nq)
      clear HR2c HR5c HZc
      go_wp2
      go_roundw
      case rel => exact ⟨k + 1, by omega, by go_num, HR2d, HR5d, HZd⟩
      case measure => simp [intOf]; omega
    · obtain rfl : k = 6 := by omega
      have HT := Lib.hid (fun (W : World) (hb : Below wr.heap.size wr W) => total8_any (c' := c2) (hR2.out.step hb) E5.out)
      rw [E3.out, hn1] at HT
      have h47 := E6.out
      rw [hn1] at h47
      have HB9 := Lib.hid (bl_step HB.out hZ.out)
      clear E4 E5 E6 E3 hR2 hR5 hZ hn1 hlt
      have HZ := Lib.hid (Below.refl wr.heap.size wr)
      obtain ⟨q, hq⟩ : ∃ q : Nat, q = chN n1 4 := ⟨_, rfl⟩
      rw [← hq] at HT
      have hcase : (n1 = 4 ∧ q = 1) ∨ (n1 = 5 ∧ q = 5) ∨ (n1 = 6 ∧ q = 15) ∨ (n1 = 7 ∧ q = 35) := by
        subst hq
        obtain rfl | rfl | rfl | rfl : n1 = 4 ∨ n1 = 5 ∨ n1 = 6 ∨ n1 = 7 := by omega
        all_goals decide
      clear hq h47
      obtain ⟨rfl, rfl⟩ | ⟨rfl, rfl⟩ | ⟨rfl, rfl⟩ | ⟨rfl, rfl⟩ := hcase
      all_goals
        go_wp2_with (first | (go_at_call 25; refine (HT.out _ (by first | exact HZ.out | exact HZ.out.drew)).mono ?_; rintro e wz ⟨rfl, hb⟩; replace HZ := Lib.hid (bl_step HZ.out hb); clear hb))
        go_ret
        exact ⟨by first | rfl | simp, bl_step HB9.out HZ.out⟩
end Go.Proofs.YtmfilnpbkonfaabDoor
