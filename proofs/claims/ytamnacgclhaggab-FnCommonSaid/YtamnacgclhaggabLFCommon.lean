/- Rings that share all arcs: the law FnCommon. -/
import Derived.Test.YtamnacgclhaggabDraw41
import Derived.Test.YtamnacgclhaggabLawCom
namespace Go.Proofs.Ytamnacgclhaggab
open Go.ChangeShapes Go.WideShapes Go.ChangeAt Go.RowKit

set_option maxRecDepth 10000 in
set_option maxHeartbeats 4000000 in
theorem law_Common (a0 : Option Addr) (len0 cap0 : Nat) (z0 : List Int) (w : World) (w0 : IsRow .u8 w a0 len0 cap0 z0) :
    Calls Try.prog 11 #[.slice a0 len0 cap0] w fun e w' => e = .returned (.bool true) ∧ Below w.heap.size w w' := by
  obtain ⟨h, hlc, hcm⟩ := byt_of_row w0
  have HD := Lib.hid (drawArcCommon_any len0 cap0 w.heap.size a0 w h (Nat.le_refl _) hlc hcm)
  clear w0 h
  by_cases hn : len0 ≤ 1048576
  rotate_left
  · go_enter Try.func11, Try.ntmps11
    go_wp2_with fail
    go_ret
    exact ⟨rfl, Below.refl _ _⟩
  go_enter Try.func11, Try.ntmps11
  go_wp2_with fail
  refine HD.out.mono ?_
  rintro e w1 ⟨v, v', l, t, rfl, ⟨A1, n1, c1, rfl, hr1⟩, ⟨A2, n2, c2, rfl, hr2⟩, hll, hb⟩
  have HB := Lib.hid hb
  have HR1 := Lib.hid hr1
  have HR2 := Lib.hid hr2
  clear hb hr1 hr2 HD
  have HC := Lib.hid (cI_ArcCommon HR1.out HR2.out)
  go_wp2_with fail
  refine HC.out.mono ?_
  rintro e w2 ⟨v, rfl, ⟨A3, n3, c3, rfl, hr⟩, hb⟩
  replace HB := Lib.hid (bl_step HB.out hb)
  replace HR1 := Lib.hid (HR1.out.step hb)
  replace HR2 := Lib.hid (HR2.out.step hb)
  have HR3 := Lib.hid hr
  clear hr
  clear hb HC
  have HC := Lib.hid (cS_ArcCommon HR1.out HR2.out)
  go_wp2_with fail
  refine HC.out.mono ?_
  rintro e w3 ⟨v, rfl, ⟨A4, n4, c4, rfl, hr⟩, hb⟩
  replace HB := Lib.hid (bl_step HB.out hb)
  replace HR1 := Lib.hid (HR1.out.step hb)
  replace HR2 := Lib.hid (HR2.out.step hb)
  replace HR3 := Lib.hid (HR3.out.step hb)
  have HR4 := Lib.hid hr
  clear hr
  clear hb HC
  have HS := Lib.hid (fun (W : World) (hb : Below w3.heap.size w3 W) => sameB_any (c := c3) (d := c4) (HR3.out.step hb) (HR4.out.step hb))
  rw [same_self] at HS
  by_cases hk : twoB l t = true
  rotate_left
  · rw [(by simpa using hk : twoB l t = false)]
    clear hk HR1 HR2 HR3 HR4
    have HZ := Lib.hid (Below.refl w3.heap.size w3)
    go_wp2_with (first | (go_at_call 21; refine (HS.out _ (by first | exact HZ.out | exact HZ.out.drew)).mono ?_; rintro e wz ⟨rfl, hb⟩; replace HZ := Lib.hid (bl_step HZ.out hb); clear hb))
    go_ret
    exact ⟨rfl, bl_step HB.out HZ.out⟩
  obtain ⟨⟨h1, h2⟩, ⟨h3, h4⟩, h5⟩ := com_told hk
  have E1 : Hid (twoB t l = true ∧ comR t l = comR l t) := ⟨h1, h2⟩
  have E2 : Hid (ringB l = true ∧ backR l = backL l) := ⟨h3, h4⟩
  have hl1 := HR1.out.len
  have h7 := HR1.out.2.2.2
  have hl3 := HR3.out.1.len
  have h36 : n1 = 3 ∨ n1 = 4 ∨ n1 = 5 ∨ n1 = 6 ∨ n1 = 7 := by
    have hT : TwoR l t := by simpa [twoB] using hk
    have := hT.1.1.1
    omega
  rw [hl1, hl3] at h5
  have E5 := Lib.hid h5
  rw [hk]
  clear hk h1 h2 h3 h4 h5 hl1 hl3 hll h7
  have HZ := Lib.hid (Below.refl w3.heap.size w3)
  go_wp2_with (first | (go_at_call 21; refine (HS.out _ (by first | exact HZ.out | exact HZ.out.drew)).mono ?_; rintro e wz ⟨rfl, hb⟩; replace HZ := Lib.hid (bl_step HZ.out hb); clear hb))
  replace HB := Lib.hid (bl_step HB.out HZ.out)
  replace HR1 := Lib.hid (HR1.out.step HZ.out)
  replace HR2 := Lib.hid (HR2.out.step HZ.out)
  replace HR3 := Lib.hid (HR3.out.step HZ.out)
  clear HR4
  clear HZ HS
  have HC := Lib.hid (cI_ArcCommon HR2.out HR1.out)
  rw [E1.out.1, E1.out.2] at HC
  go_wp2_with fail
  refine HC.out.mono ?_
  rintro e w4 ⟨v, rfl, ⟨A5, n5, c5, rfl, hr⟩, hb⟩
  replace HB := Lib.hid (bl_step HB.out hb)
  replace HR1 := Lib.hid (HR1.out.step hb)
  replace HR2 := Lib.hid (HR2.out.step hb)
  replace HR3 := Lib.hid (HR3.out.step hb)
  have HR5 := Lib.hid hr
  clear hr
  clear hb HC
  have HC := Lib.hid (cM_RingBack HR1.out)
  rw [E2.out.1, E2.out.2] at HC
  go_wp2_with fail
  refine HC.out.mono ?_
  rintro e w5 ⟨v, rfl, ⟨A6, n6, c6, rfl, hr⟩, hb⟩
  replace HB := Lib.hid (bl_step HB.out hb)
  replace HR1 := Lib.hid (HR1.out.step hb)
  replace HR2 := Lib.hid (HR2.out.step hb)
  replace HR3 := Lib.hid (HR3.out.step hb)
  replace HR5 := Lib.hid (HR5.out.step hb)
  have HR6 := Lib.hid hr
  clear hr
  clear hb HC
  have HX := Lib.hid (fun (W : World) (hb : Below w5.heap.size w5 W) => sameB_any (c := c5) (d := c3) (HR5.out.step hb) (HR3.out.step hb))
  rw [same_self] at HX
  have HS1 := Lib.hid (fun (W : World) (hb : Below w5.heap.size w5 W) => sameI_any (HR1.out.step hb) (HR2.out.step hb))
  have HS2 := Lib.hid (fun (W : World) (hb : Below w5.heap.size w5 W) => sameI_any (HR6.out.step hb) (HR2.out.step hb))
  have h5 := E5.out
  clear E1 E2 E5 HR1 HR2 HR3 HR5 HR6
  generalize same l t = g1 at *
  generalize same (backL l) t = g2 at *
  obtain rfl | h36 := h36
  · clear h5 HS1 HS2
    have HZ := Lib.hid (Below.refl w5.heap.size w5)
    go_wp2_with (first | (go_at_call_of 21 (Value.slice A5 n5 c5); refine (HX.out _ (by first | exact HZ.out | exact HZ.out.drew)).mono ?_; rintro e wz ⟨rfl, hb⟩; replace HZ := Lib.hid (bl_step HZ.out hb); clear hb))
    go_ret
    exact ⟨rfl, bl_step HB.out HZ.out⟩
  · obtain rfl | rfl | rfl | rfl := h36
    · replace h5 := h5 (by omega)
      cases g1
      · cases g2
        · have hne : ((n3 : Int) == 12) = false := by simp at h5 ⊢; omega
          clear h5
          have HZ := Lib.hid (Below.refl w5.heap.size w5)
          go_wp2_with (first | (go_at_call_of 21 (Value.slice A5 n5 c5); refine (HX.out _ (by first | exact HZ.out | exact HZ.out.drew)).mono ?_; rintro e wz ⟨rfl, hb⟩; replace HZ := Lib.hid (bl_step HZ.out hb); clear hb) | (go_at_call_of 21 (Value.slice A1 4 c1); refine (HS1.out _ (by first | exact HZ.out | exact HZ.out.drew)).mono ?_; rintro e wz ⟨rfl, hb⟩; replace HZ := Lib.hid (bl_step HZ.out hb); clear hb) | (go_at_call_of 21 (Value.slice A6 n6 c6); refine (HS2.out _ (by first | exact HZ.out | exact HZ.out.drew)).mono ?_; rintro e wz ⟨rfl, hb⟩; replace HZ := Lib.hid (bl_step HZ.out hb); clear hb))
          go_ret
          exact ⟨rfl, bl_step HB.out HZ.out⟩
        · obtain rfl : n3 = 12 := by simpa using h5
          clear h5
          have HZ := Lib.hid (Below.refl w5.heap.size w5)
          go_wp2_with (first | (go_at_call_of 21 (Value.slice A5 n5 c5); refine (HX.out _ (by first | exact HZ.out | exact HZ.out.drew)).mono ?_; rintro e wz ⟨rfl, hb⟩; replace HZ := Lib.hid (bl_step HZ.out hb); clear hb) | (go_at_call_of 21 (Value.slice A1 4 c1); refine (HS1.out _ (by first | exact HZ.out | exact HZ.out.drew)).mono ?_; rintro e wz ⟨rfl, hb⟩; replace HZ := Lib.hid (bl_step HZ.out hb); clear hb) | (go_at_call_of 21 (Value.slice A6 n6 c6); refine (HS2.out _ (by first | exact HZ.out | exact HZ.out.drew)).mono ?_; rintro e wz ⟨rfl, hb⟩; replace HZ := Lib.hid (bl_step HZ.out hb); clear hb))
          go_ret
          exact ⟨rfl, bl_step HB.out HZ.out⟩
      · obtain rfl : n3 = 12 := by simpa using h5
        clear h5 HS2
        have HZ := Lib.hid (Below.refl w5.heap.size w5)
        go_wp2_with (first | (go_at_call_of 21 (Value.slice A5 n5 c5); refine (HX.out _ (by first | exact HZ.out | exact HZ.out.drew)).mono ?_; rintro e wz ⟨rfl, hb⟩; replace HZ := Lib.hid (bl_step HZ.out hb); clear hb) | (go_at_call_of 21 (Value.slice A1 4 c1); refine (HS1.out _ (by first | exact HZ.out | exact HZ.out.drew)).mono ?_; rintro e wz ⟨rfl, hb⟩; replace HZ := Lib.hid (bl_step HZ.out hb); clear hb))
        go_ret
        exact ⟨rfl, bl_step HB.out HZ.out⟩
    · replace h5 := h5 (by omega)
      cases g1
      · cases g2
        · have hne : ((n3 : Int) == 20) = false := by simp at h5 ⊢; omega
          clear h5
          have HZ := Lib.hid (Below.refl w5.heap.size w5)
          go_wp2_with (first | (go_at_call_of 21 (Value.slice A5 n5 c5); refine (HX.out _ (by first | exact HZ.out | exact HZ.out.drew)).mono ?_; rintro e wz ⟨rfl, hb⟩; replace HZ := Lib.hid (bl_step HZ.out hb); clear hb) | (go_at_call_of 21 (Value.slice A1 5 c1); refine (HS1.out _ (by first | exact HZ.out | exact HZ.out.drew)).mono ?_; rintro e wz ⟨rfl, hb⟩; replace HZ := Lib.hid (bl_step HZ.out hb); clear hb) | (go_at_call_of 21 (Value.slice A6 n6 c6); refine (HS2.out _ (by first | exact HZ.out | exact HZ.out.drew)).mono ?_; rintro e wz ⟨rfl, hb⟩; replace HZ := Lib.hid (bl_step HZ.out hb); clear hb))
          go_ret
          exact ⟨rfl, bl_step HB.out HZ.out⟩
        · obtain rfl : n3 = 20 := by simpa using h5
          clear h5
          have HZ := Lib.hid (Below.refl w5.heap.size w5)
          go_wp2_with (first | (go_at_call_of 21 (Value.slice A5 n5 c5); refine (HX.out _ (by first | exact HZ.out | exact HZ.out.drew)).mono ?_; rintro e wz ⟨rfl, hb⟩; replace HZ := Lib.hid (bl_step HZ.out hb); clear hb) | (go_at_call_of 21 (Value.slice A1 5 c1); refine (HS1.out _ (by first | exact HZ.out | exact HZ.out.drew)).mono ?_; rintro e wz ⟨rfl, hb⟩; replace HZ := Lib.hid (bl_step HZ.out hb); clear hb) | (go_at_call_of 21 (Value.slice A6 n6 c6); refine (HS2.out _ (by first | exact HZ.out | exact HZ.out.drew)).mono ?_; rintro e wz ⟨rfl, hb⟩; replace HZ := Lib.hid (bl_step HZ.out hb); clear hb))
          go_ret
          exact ⟨rfl, bl_step HB.out HZ.out⟩
      · obtain rfl : n3 = 20 := by simpa using h5
        clear h5 HS2
        have HZ := Lib.hid (Below.refl w5.heap.size w5)
        go_wp2_with (first | (go_at_call_of 21 (Value.slice A5 n5 c5); refine (HX.out _ (by first | exact HZ.out | exact HZ.out.drew)).mono ?_; rintro e wz ⟨rfl, hb⟩; replace HZ := Lib.hid (bl_step HZ.out hb); clear hb) | (go_at_call_of 21 (Value.slice A1 5 c1); refine (HS1.out _ (by first | exact HZ.out | exact HZ.out.drew)).mono ?_; rintro e wz ⟨rfl, hb⟩; replace HZ := Lib.hid (bl_step HZ.out hb); clear hb))
        go_ret
        exact ⟨rfl, bl_step HB.out HZ.out⟩
    · replace h5 := h5 (by omega)
      cases g1
      · cases g2
        · have hne : ((n3 : Int) == 30) = false := by simp at h5 ⊢; omega
          clear h5
          have HZ := Lib.hid (Below.refl w5.heap.size w5)
          go_wp2_with (first | (go_at_call_of 21 (Value.slice A5 n5 c5); refine (HX.out _ (by first | exact HZ.out | exact HZ.out.drew)).mono ?_; rintro e wz ⟨rfl, hb⟩; replace HZ := Lib.hid (bl_step HZ.out hb); clear hb) | (go_at_call_of 21 (Value.slice A1 6 c1); refine (HS1.out _ (by first | exact HZ.out | exact HZ.out.drew)).mono ?_; rintro e wz ⟨rfl, hb⟩; replace HZ := Lib.hid (bl_step HZ.out hb); clear hb) | (go_at_call_of 21 (Value.slice A6 n6 c6); refine (HS2.out _ (by first | exact HZ.out | exact HZ.out.drew)).mono ?_; rintro e wz ⟨rfl, hb⟩; replace HZ := Lib.hid (bl_step HZ.out hb); clear hb))
          go_ret
          exact ⟨rfl, bl_step HB.out HZ.out⟩
        · obtain rfl : n3 = 30 := by simpa using h5
          clear h5
          have HZ := Lib.hid (Below.refl w5.heap.size w5)
          go_wp2_with (first | (go_at_call_of 21 (Value.slice A5 n5 c5); refine (HX.out _ (by first | exact HZ.out | exact HZ.out.drew)).mono ?_; rintro e wz ⟨rfl, hb⟩; replace HZ := Lib.hid (bl_step HZ.out hb); clear hb) | (go_at_call_of 21 (Value.slice A1 6 c1); refine (HS1.out _ (by first | exact HZ.out | exact HZ.out.drew)).mono ?_; rintro e wz ⟨rfl, hb⟩; replace HZ := Lib.hid (bl_step HZ.out hb); clear hb) | (go_at_call_of 21 (Value.slice A6 n6 c6); refine (HS2.out _ (by first | exact HZ.out | exact HZ.out.drew)).mono ?_; rintro e wz ⟨rfl, hb⟩; replace HZ := Lib.hid (bl_step HZ.out hb); clear hb))
          go_ret
          exact ⟨rfl, bl_step HB.out HZ.out⟩
      · obtain rfl : n3 = 30 := by simpa using h5
        clear h5 HS2
        have HZ := Lib.hid (Below.refl w5.heap.size w5)
        go_wp2_with (first | (go_at_call_of 21 (Value.slice A5 n5 c5); refine (HX.out _ (by first | exact HZ.out | exact HZ.out.drew)).mono ?_; rintro e wz ⟨rfl, hb⟩; replace HZ := Lib.hid (bl_step HZ.out hb); clear hb) | (go_at_call_of 21 (Value.slice A1 6 c1); refine (HS1.out _ (by first | exact HZ.out | exact HZ.out.drew)).mono ?_; rintro e wz ⟨rfl, hb⟩; replace HZ := Lib.hid (bl_step HZ.out hb); clear hb))
        go_ret
        exact ⟨rfl, bl_step HB.out HZ.out⟩
    · replace h5 := h5 (by omega)
      cases g1
      · cases g2
        · have hne : ((n3 : Int) == 42) = false := by simp at h5 ⊢; omega
          clear h5
          have HZ := Lib.hid (Below.refl w5.heap.size w5)
          go_wp2_with (first | (go_at_call_of 21 (Value.slice A5 n5 c5); refine (HX.out _ (by first | exact HZ.out | exact HZ.out.drew)).mono ?_; rintro e wz ⟨rfl, hb⟩; replace HZ := Lib.hid (bl_step HZ.out hb); clear hb) | (go_at_call_of 21 (Value.slice A1 7 c1); refine (HS1.out _ (by first | exact HZ.out | exact HZ.out.drew)).mono ?_; rintro e wz ⟨rfl, hb⟩; replace HZ := Lib.hid (bl_step HZ.out hb); clear hb) | (go_at_call_of 21 (Value.slice A6 n6 c6); refine (HS2.out _ (by first | exact HZ.out | exact HZ.out.drew)).mono ?_; rintro e wz ⟨rfl, hb⟩; replace HZ := Lib.hid (bl_step HZ.out hb); clear hb))
          go_ret
          exact ⟨rfl, bl_step HB.out HZ.out⟩
        · obtain rfl : n3 = 42 := by simpa using h5
          clear h5
          have HZ := Lib.hid (Below.refl w5.heap.size w5)
          go_wp2_with (first | (go_at_call_of 21 (Value.slice A5 n5 c5); refine (HX.out _ (by first | exact HZ.out | exact HZ.out.drew)).mono ?_; rintro e wz ⟨rfl, hb⟩; replace HZ := Lib.hid (bl_step HZ.out hb); clear hb) | (go_at_call_of 21 (Value.slice A1 7 c1); refine (HS1.out _ (by first | exact HZ.out | exact HZ.out.drew)).mono ?_; rintro e wz ⟨rfl, hb⟩; replace HZ := Lib.hid (bl_step HZ.out hb); clear hb) | (go_at_call_of 21 (Value.slice A6 n6 c6); refine (HS2.out _ (by first | exact HZ.out | exact HZ.out.drew)).mono ?_; rintro e wz ⟨rfl, hb⟩; replace HZ := Lib.hid (bl_step HZ.out hb); clear hb))
          go_ret
          exact ⟨rfl, bl_step HB.out HZ.out⟩
      · obtain rfl : n3 = 42 := by simpa using h5
        clear h5 HS2
        have HZ := Lib.hid (Below.refl w5.heap.size w5)
        go_wp2_with (first | (go_at_call_of 21 (Value.slice A5 n5 c5); refine (HX.out _ (by first | exact HZ.out | exact HZ.out.drew)).mono ?_; rintro e wz ⟨rfl, hb⟩; replace HZ := Lib.hid (bl_step HZ.out hb); clear hb) | (go_at_call_of 21 (Value.slice A1 7 c1); refine (HS1.out _ (by first | exact HZ.out | exact HZ.out.drew)).mono ?_; rintro e wz ⟨rfl, hb⟩; replace HZ := Lib.hid (bl_step HZ.out hb); clear hb))
        go_ret
        exact ⟨rfl, bl_step HB.out HZ.out⟩
end Go.Proofs.Ytamnacgclhaggab
