/- Differences stay when points are called otherwise: the law FnDifferNamed. -/
import Derived.Test.YtamnacgclhaggabDraw11
import Derived.Test.YtamnacgclhaggabLawD
import Derived.Test.YtamnacgclhaggabSdN
import Derived.Test.YtamnacgclhaggabLaw0N
namespace Go.Proofs.Ytamnacgclhaggab
open Go.ChangeShapes Go.WideShapes Go.ChangeAt Go.RowKit

set_option maxRecDepth 10000 in
set_option maxHeartbeats 4000000 in
theorem law_DifferNamed (a0 : Option Addr) (len0 cap0 : Nat) (z0 : List Int) (w : World) (w0 : IsRow .u8 w a0 len0 cap0 z0) :
    Calls Try.prog 10 #[.slice a0 len0 cap0] w fun e w' => e = .returned (.bool true) ∧ Below w.heap.size w w' := by
  obtain ⟨h, hlc, hcm⟩ := byt_of_row w0
  have HD := Lib.hid (drawRingNamed_any len0 cap0 w.heap.size a0 w h (Nat.le_refl _) hlc hcm)
  clear w0 h
  by_cases hn : len0 ≤ 1048576
  rotate_left
  · go_enter Try.func10, Try.ntmps10
    go_wp2_with fail
    go_ret
    exact ⟨rfl, Below.refl _ _⟩
  go_enter Try.func10, Try.ntmps10
  go_wp2_with fail
  refine HD.out.mono ?_
  rintro e w1 ⟨v, v', l, p, rfl, ⟨A1, n1, c1, rfl, hr1⟩, ⟨A2, n2, c2, rfl, hr2⟩, hb⟩
  have HB := Lib.hid hb
  have HR1 := Lib.hid hr1
  have HR2 := Lib.hid hr2
  clear hb hr1 hr2 HD
  have HC := Lib.hid (cM_RingNamed HR1.out HR2.out)
  go_wp2_with fail
  refine HC.out.mono ?_
  rintro e w2 ⟨v, rfl, ⟨A3, n3, c3, rfl, hr⟩, hb⟩
  replace HB := Lib.hid (bl_step HB.out hb)
  replace HR1 := Lib.hid (HR1.out.step hb)
  replace HR2 := Lib.hid (HR2.out.step hb)
  have HR3 := Lib.hid hr
  clear hr
  clear hb HC
  have HC := Lib.hid (cN_RingNamed HR1.out HR2.out)
  go_wp2_with fail
  refine HC.out.mono ?_
  rintro e w3 ⟨v, rfl, ⟨A4, n4, c4, rfl, hr⟩, hb⟩
  replace HB := Lib.hid (bl_step HB.out hb)
  replace HR1 := Lib.hid (HR1.out.step hb)
  replace HR2 := Lib.hid (HR2.out.step hb)
  replace HR3 := Lib.hid (HR3.out.step hb)
  have HR4 := Lib.hid hr
  clear hr
  clear hb HC
  have HS := Lib.hid (fun (W : World) (hb : Below w3.heap.size w3 W) => sameI_any (HR3.out.step hb) (HR4.out.step hb))
  rw [same_self] at HS
  by_cases hk : namedB l p = true
  rotate_left
  · rw [namedB_no hk]
    clear hk HR1 HR2 HR3 HR4
    have HZ := Lib.hid (Below.refl w3.heap.size w3)
    go_wp2_with (first | (go_at_call 21; refine (HS.out _ (by first | exact HZ.out | exact HZ.out.drew)).mono ?_; rintro e wz ⟨rfl, hb⟩; replace HZ := Lib.hid (bl_step HZ.out hb); clear hb))
    go_ret
    exact ⟨rfl, bl_step HB.out HZ.out⟩
  obtain ⟨hr, hp, he⟩ := namedB_yes hk
  have hrb := backL_ring hr
  have heb : p.length = (backL l).length := by rw [backL_length]; exact he
  have E4 : Hid (ringB l = true ∧ backR l = backL l) := ⟨ring_yes hr, by rw [backR, if_pos hr]⟩
  have hkb : namedB (backL l) p = true := by
    unfold namedB
    rw [ring_yes hrb]
    simp [tell, hp, heb]
  have E5 : Hid (namedB (backL l) p = true ∧ namedR (backL l) p = cutL (callL (backL l) p) 0) := ⟨hkb, by rw [namedR, if_pos hkb]⟩
  obtain ⟨q1, q2⟩ := called_ring hr hp he
  obtain ⟨q3, q4⟩ := called_ring hrb hp heb
  have htw : TwoR (cutL (callL l p) 0) (cutL (callL (backL l) p) 0) := ⟨q1, q3, by rw [q2, q4, backL_length]⟩
  have E6 : Hid (twoB (cutL (callL l p) 0) (cutL (callL (backL l) p) 0) = true ∧ sdR (cutL (callL l p) 0) (cutL (callL (backL l) p) 0) = cntT l.length) := ⟨twoYes htw, by rw [sd_two htw, q2]; exact called_differ hr hp he⟩
  have en : namedR l p = cutL (callL l p) 0 := by rw [namedR, if_pos hk]
  have hln := HR1.out.len
  have h3 := hr.1.1
  have h7 := HR1.out.2.2.2
  rw [hk]
  rw [en] at HR3
  rw [hln] at h3 E6
  clear hk hr hp he hrb heb hkb q1 q2 q3 q4 htw en hln
  generalize cutL (callL l p) 0 = o1 at *
  have HZ := Lib.hid (Below.refl w3.heap.size w3)
  go_wp2_with (first | (go_at_call 21; refine (HS.out _ (by first | exact HZ.out | exact HZ.out.drew)).mono ?_; rintro e wz ⟨rfl, hb⟩; replace HZ := Lib.hid (bl_step HZ.out hb); clear hb))
  replace HB := Lib.hid (bl_step HB.out HZ.out)
  replace HR1 := Lib.hid (HR1.out.step HZ.out)
  replace HR2 := Lib.hid (HR2.out.step HZ.out)
  replace HR3 := Lib.hid (HR3.out.step HZ.out)
  clear HR4
  clear HZ HS
  have HC := Lib.hid (cM_RingBack HR1.out)
  rw [E4.out.1, E4.out.2] at HC
  go_wp2_with fail
  refine HC.out.mono ?_
  rintro e w4 ⟨v, rfl, ⟨A5, n5, c5, rfl, hr⟩, hb⟩
  replace HB := Lib.hid (bl_step HB.out hb)
  clear HR1
  replace HR2 := Lib.hid (HR2.out.step hb)
  replace HR3 := Lib.hid (HR3.out.step hb)
  have HR5 := Lib.hid hr
  clear hr
  clear hb HC
  have HC := Lib.hid (cM_RingNamed HR5.out HR2.out)
  rw [E5.out.1, E5.out.2] at HC
  go_wp2_with fail
  refine HC.out.mono ?_
  rintro e w5 ⟨v, rfl, ⟨A6, n6, c6, rfl, hr⟩, hb⟩
  replace HB := Lib.hid (bl_step HB.out hb)
  clear HR2
  replace HR3 := Lib.hid (HR3.out.step hb)
  clear HR5
  have HR6 := Lib.hid hr
  clear hr
  clear hb HC
  have HC := Lib.hid (cI_SwapDiffer HR3.out HR6.out)
  rw [E6.out.1, E6.out.2] at HC
  go_wp2_with fail
  refine HC.out.mono ?_
  rintro e w6 ⟨rfl, hb⟩
  replace HB := Lib.hid (bl_step HB.out hb)
  clear HR3
  clear HR6
  clear hb HC
  clear E4 E5 E6
  obtain rfl | rfl | rfl | rfl | rfl : n1 = 3 ∨ n1 = 4 ∨ n1 = 5 ∨ n1 = 6 ∨ n1 = 7 := by omega
  · rw [cntT_val.1]
    go_wp2
    go_ret
    exact ⟨rfl, HB.out⟩
  · rw [cntT_val.2.1]
    go_wp2
    go_ret
    exact ⟨rfl, HB.out⟩
  · rw [cntT_val.2.2.1]
    go_wp2
    go_ret
    exact ⟨rfl, HB.out⟩
  · rw [cntT_val.2.2.2.1]
    go_wp2
    go_ret
    exact ⟨rfl, HB.out⟩
  · rw [cntT_val.2.2.2.2]
    go_wp2
    go_ret
    exact ⟨rfl, HB.out⟩
end Go.Proofs.Ytamnacgclhaggab
