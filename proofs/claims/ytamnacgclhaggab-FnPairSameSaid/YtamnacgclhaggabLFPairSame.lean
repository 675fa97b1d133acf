/- Rings of the same partings: the law FnPairSame. -/
import Derived.Test.YtamnacgclhaggabDraw43
import Derived.Test.YtamnacgclhaggabLawT2
namespace Go.Proofs.Ytamnacgclhaggab
open Go.ChangeShapes Go.WideShapes Go.ChangeAt Go.RowKit

set_option maxRecDepth 10000 in
set_option maxHeartbeats 4000000 in
theorem law_PairSame (a0 : Option Addr) (len0 cap0 : Nat) (z0 : List Int) (w : World) (w0 : IsRow .u8 w a0 len0 cap0 z0) :
    Calls Try.prog 6 #[.slice a0 len0 cap0] w fun e w' => e = .returned (.bool true) ∧ Below w.heap.size w w' := by
  obtain ⟨h, hlc, hcm⟩ := byt_of_row w0
  have HD := Lib.hid (drawPairSame_any len0 cap0 w.heap.size a0 w h (Nat.le_refl _) hlc hcm)
  clear w0 h
  by_cases hn : len0 ≤ 1048576
  rotate_left
  · go_enter Try.func6, Try.ntmps6
    go_wp2_with fail
    go_ret
    exact ⟨rfl, Below.refl _ _⟩
  go_enter Try.func6, Try.ntmps6
  go_wp2_with fail
  refine HD.out.mono ?_
  rintro e w1 ⟨v, v', l, t, rfl, ⟨A1, n1, c1, rfl, hr1⟩, ⟨A2, n2, c2, rfl, hr2⟩, hll, hb⟩
  have HB := Lib.hid hb
  have HR1 := Lib.hid hr1
  have HR2 := Lib.hid hr2
  clear hb hr1 hr2 HD
  have HC := Lib.hid (cI_PairSame HR1.out HR2.out)
  go_wp2_with fail
  refine HC.out.mono ?_
  rintro e w2 ⟨rfl, hb⟩
  replace HB := Lib.hid (bl_step HB.out hb)
  replace HR1 := Lib.hid (HR1.out.step hb)
  replace HR2 := Lib.hid (HR2.out.step hb)
  clear hb HC
  have HC := Lib.hid (cS_PairSame HR1.out HR2.out)
  go_wp2_with fail
  refine HC.out.mono ?_
  rintro e w3 ⟨rfl, hb⟩
  replace HB := Lib.hid (bl_step HB.out hb)
  replace HR1 := Lib.hid (HR1.out.step hb)
  replace HR2 := Lib.hid (HR2.out.step hb)
  clear hb HC
  by_cases hk : psB l t = true
  rotate_left
  · rw [show psB l t = false by simpa using hk]
    clear hk
    go_wp2
    go_ret
    exact ⟨rfl, HB.out⟩
  rw [hk]
  obtain ⟨h1, h2, h3, h4⟩ := ps_told hk
  have E1 : Hid (ringB l = true ∧ backR l = backL l) := ⟨h1, h2⟩
  have E3 := Lib.hid h3
  have E4 := Lib.hid h4
  clear hk h1 h2 h3 h4 hll
  have HC := Lib.hid (cM_RingBack HR1.out)
  rw [E1.out.1, E1.out.2] at HC
  go_wp2_with fail
  refine HC.out.mono ?_
  rintro e w4 ⟨v, rfl, ⟨A5, n5, c5, rfl, hr⟩, hb⟩
  replace HB := Lib.hid (bl_step HB.out hb)
  replace HR1 := Lib.hid (HR1.out.step hb)
  replace HR2 := Lib.hid (HR2.out.step hb)
  have HR5 := Lib.hid hr
  clear hr
  clear hb HC
  have HPS := Lib.hid (fun (W : World) (hb : Below w4.heap.size w4 W) => cI_PairSame (HR2.out.step hb) (HR1.out.step hb))
  rw [E3.out] at HPS
  have HS1 := Lib.hid (fun (W : World) (hb : Below w4.heap.size w4 W) => sameI_any (HR1.out.step hb) (HR2.out.step hb))
  have HS2 := Lib.hid (fun (W : World) (hb : Below w4.heap.size w4 W) => sameI_any (HR5.out.step hb) (HR2.out.step hb))
  have h4 := E4.out
  clear E1 E3 E4 HR1 HR2 HR5
  cases hs : same l t
  · rw [hs] at HS1 h4
    have h5 : same (backL l) t = true := by simpa using h4
    rw [h5] at HS2
    clear h4 h5 hs
    generalize backL l = b at *
    have HZ := Lib.hid (Below.refl w4.heap.size w4)
    go_wp2_with (first | (go_at_call 30; refine (HPS.out _ (by first | exact HZ.out | exact HZ.out.drew)).mono ?_; rintro e wz ⟨rfl, hb⟩; replace HZ := Lib.hid (bl_step HZ.out hb); clear hb) | (go_at_call_of 21 (Value.slice A1 n1 c1); refine (HS1.out _ (by first | exact HZ.out | exact HZ.out.drew)).mono ?_; rintro e wz ⟨rfl, hb⟩; replace HZ := Lib.hid (bl_step HZ.out hb); clear hb) | (go_at_call_of 21 (Value.slice A5 n5 c5); refine (HS2.out _ (by first | exact HZ.out | exact HZ.out.drew)).mono ?_; rintro e wz ⟨rfl, hb⟩; replace HZ := Lib.hid (bl_step HZ.out hb); clear hb))
    go_ret
    exact ⟨rfl, bl_step HB.out HZ.out⟩
  · rw [hs] at HS1
    clear h4 hs HS2
    have HZ := Lib.hid (Below.refl w4.heap.size w4)
    go_wp2_with (first | (go_at_call 30; refine (HPS.out _ (by first | exact HZ.out | exact HZ.out.drew)).mono ?_; rintro e wz ⟨rfl, hb⟩; replace HZ := Lib.hid (bl_step HZ.out hb); clear hb) | (go_at_call_of 21 (Value.slice A1 n1 c1); refine (HS1.out _ (by first | exact HZ.out | exact HZ.out.drew)).mono ?_; rintro e wz ⟨rfl, hb⟩; replace HZ := Lib.hid (bl_step HZ.out hb); clear hb))
    go_ret
    exact ⟨rfl, bl_step HB.out HZ.out⟩
end Go.Proofs.Ytamnacgclhaggab
