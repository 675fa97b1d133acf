/- Patterns are had as often as there are sets at most: the law FnPatternMany. -/
import Derived.Test.YtmfilnpbkonfaaaDoorDraw19
import Derived.Test.YtmfilnpbkonfaaaDoorPnJ
import Derived.Test.YtmfilnpbkonfaaaDoorLaw8M
import Derived.Test.YtmfilnpbkonfaaaDoorSameI
namespace Go.Proofs.YtmfilnpbkonfaaaDoor
open Go.ChangeShapes Go.WideShapes Go.ChangeAt Go.RowKit

set_option maxRecDepth 10000 in
set_option maxHeartbeats 4000000 in
theorem law_PatternMany (a0 : Option Addr) (len0 cap0 : Nat) (z0 : List Int) (w : World) (w0 : IsRow .u8 w a0 len0 cap0 z0) (hTAB : Tab w) :
    Calls Tryd.prog 5 #[.slice a0 len0 cap0] w fun e w' => e = .returned (.bool true) ∧ Below w.heap.size w w' := by
  obtain ⟨h, hlc, hcm⟩ := byt_of_row w0
  have HD := Lib.hid (drawPatternMany_any len0 cap0 w.heap.size a0 w h (Nat.le_refl _) hlc hcm)
  clear w0 h
  by_cases hn : len0 ≤ 1048576
  rotate_left
  · go_enter Tryd.func5, Tryd.ntmps5
    go_wp2_with fail
    go_ret
    exact ⟨rfl, Below.refl _ _⟩
  go_enter Tryd.func5, Tryd.ntmps5
  go_wp2_with fail
  refine HD.out.mono ?_
  rintro e w1 ⟨v, l, v', p, rfl, ⟨A1, n1, c1, rfl, hr1⟩, ⟨A2, n2, c2, rfl, hr2⟩, hb⟩
  have HB := Lib.hid hb
  have HR1 := Lib.hid hr1
  have HR2 := Lib.hid hr2
  have HRT := Lib.hid (hTAB.step hb)
  clear hTAB
  clear hb hr1 hr2 HD
  have HC := Lib.hid (cI_PatternMany HR1.out HR2.out HRT.out)
  go_wp2_with fail
  refine HC.out.mono ?_
  rintro e w2 ⟨rfl, hb⟩
  replace HB := Lib.hid (bl_step HB.out hb)
  replace HR1 := Lib.hid (HR1.out.step hb)
  replace HR2 := Lib.hid (HR2.out.step hb)
  replace HRT := Lib.hid (HRT.out.step hb)
  clear hb HC
  have HC := Lib.hid (cS_PatternMany HR1.out HR2.out)
  go_wp2_with fail
  refine HC.out.mono ?_
  rintro e w3 ⟨rfl, hb⟩
  replace HB := Lib.hid (bl_step HB.out hb)
  replace HR1 := Lib.hid (HR1.out.step hb)
  replace HR2 := Lib.hid (HR2.out.step hb)
  replace HRT := Lib.hid (HRT.out.step hb)
  clear hb HC
  by_cases hk : Two8 l p
  rotate_left
  · rw [pmR, if_neg hk, two8_no hk]
    clear hk
    go_wp2
    go_ret
    exact ⟨rfl, HB.out⟩
  have hL1 := HR1.out.len
  have hL2 := HR2.out.len
  have EO : pmR l p = (mnyN l p : Int) := by rw [pmR, if_pos hk]
  have E1 : Hid (pfB l p = decide (0 < mnyN l p)) := by rw [Hid, pfB, if_pos hk]
  have h17 : n1 ≤ 7 := by rw [← hL1]; exact hk.1.1.2.1
  have h21 : n2 ≤ n1 := by rw [← hL1, ← hL2]; exact hk.2.2
  have hle : mnyN l p ≤ chN n1 n2 := by have := mny_ch hk.1.1 hk.2.2; rwa [hL1, hL2] at this
  have hsame : Hid (n1 = n2 → mnyN l p = if l = p then 1 else 0) := fun e => mny_same hk.1 (by rw [hL1, hL2, e])
  obtain ⟨g1, g2, g3, g4, g5, g6⟩ := fac_facts ⟨n1, by omega⟩ ⟨n2, by omega⟩ h21
  obtain ⟨g7, g8, g7r⟩ := fac_facts ⟨n2, by omega⟩ ⟨n2, by omega⟩ (Nat.le_refl _)
  obtain ⟨g9, g10, g9r⟩ := fac_facts ⟨n1 - n2, by omega⟩ ⟨n1 - n2, by omega⟩ (Nat.le_refl _)
  simp only at g1 g2 g3 g4 g5 g6 g7 g8 g9 g10
  rw [two8_yes hk, EO]
  have HFL : Hid (∀ (m : Nat) (W : World), m ≤ 7 → Calls Tryd.prog 19 #[.int .i64 (m : Int)] W fun e w' => e = .returned (.int .i64 (facN m)) ∧ W = w') := fun m W hm => by
    have := facL_any (m : Int) W (by omega) (by omega)
    rwa [Int.toNat_natCast] at this
  clear hk EO g7r g9r hL1 hL2
  have hps := HRT
  generalize mnyN l p = o at *
  have HC := Lib.hid (cI_PatternFirst HR1.out HR2.out HRT.out)
  rw [E1.out] at HC
  generalize pfR l p = o1 at *
  go_wp2_with fail
  refine HC.out.mono ?_
  rintro e w8 ⟨rfl, hb⟩
  replace HB := Lib.hid (bl_step HB.out hb)
  replace HR1 := Lib.hid (HR1.out.step hb)
  replace HR2 := Lib.hid (HR2.out.step hb)
  clear hb HC E1 hps HRT
  have HS := Lib.hid (fun (W : World) (hb : Below w8.heap.size w8 W) => sameI_any (HR1.out.step hb) (HR2.out.step hb))
  generalize (facN n1).toNat / (facN n2).toNat = d1 at *
  generalize chN n1 n2 = d2 at *
  have hd1 : IntKind.i64.wrap (d1 : Int) = (d1 : Int) := by rw [IntKind.wrap_i64]; omega
  have hd2 : IntKind.i64.wrap (d2 : Int) = (d2 : Int) := by rw [IntKind.wrap_i64]; omega
  have hleI : (o : Int) ≤ (d2 : Int) := by omega
  have HBx := Lib.hid HB.out
  by_cases hlen : n1 = n2
  rotate_left
  · have hne : ((n1 : Int) != (n2 : Int)) = true := by simp; omega
    by_cases h0 : 0 < o
    · have h0I : (o : Int) > 0 := by omega
      have hdt : decide (0 < o) = true := decide_eq_true h0
      clear hsame
      have hsub : IntKind.i64.wrap ((n1 : Int) - (n2 : Int)) = ((n1 - n2 : Nat) : Int) := by rw [IntKind.wrap_i64]; omega
      have z2 : facN n2 ≠ 0 := by omega
      have z3 : facN (n1 - n2) ≠ 0 := by omega
      have z2' : (facN n2 == 0) = false := by simp; omega
      have z3' : (facN (n1 - n2) == 0) = false := by simp; omega
      clear HS HR1 HR2
      go_wp2_with fail
      go_quiet (refine Calls.quiet_of_same ((HFL.out _ _ (by omega)).mono fun e w' h => ⟨h.1, h.2.symm⟩))
      go_wp2
      go_ret
      exact ⟨by first | rfl | simp, below_drewN HBx.out _⟩
    · obtain rfl : o = 0 := by omega
      clear hsame
      have hsub : IntKind.i64.wrap ((n1 : Int) - (n2 : Int)) = ((n1 - n2 : Nat) : Int) := by rw [IntKind.wrap_i64]; omega
      have z2 : facN n2 ≠ 0 := by omega
      have z3 : facN (n1 - n2) ≠ 0 := by omega
      have z2' : (facN n2 == 0) = false := by simp; omega
      have z3' : (facN (n1 - n2) == 0) = false := by simp; omega
      clear HS HR1 HR2
      go_wp2_with fail
      go_quiet (refine Calls.quiet_of_same ((HFL.out _ _ (by omega)).mono fun e w' h => ⟨h.1, h.2.symm⟩))
      go_wp2
      go_ret
      exact ⟨by first | rfl | simp, below_drewN HBx.out _⟩
  have hne : ((n1 : Int) != (n2 : Int)) = false := by simp; omega
  have HO := hsame.out hlen
  clear hlen
  by_cases hlp : l = p
  · rw [if_pos hlp] at HO
    subst HO
    have hsm : same l p = true := by simp [same, hlp]
    rw [hsm] at HS
    clear hsame hsm hlp
    have hsub : IntKind.i64.wrap ((n1 : Int) - (n2 : Int)) = ((n1 - n2 : Nat) : Int) := by rw [IntKind.wrap_i64]; omega
    have z2 : facN n2 ≠ 0 := by omega
    have z3 : facN (n1 - n2) ≠ 0 := by omega
    have z2' : (facN n2 == 0) = false := by simp; omega
    have z3' : (facN (n1 - n2) == 0) = false := by simp; omega
    clear HR1 HR2
    go_wp2_with fail
    go_quiet (refine Calls.quiet_of_same ((HFL.out _ _ (by omega)).mono fun e w' h => ⟨h.1, h.2.symm⟩))
    have HZ := Lib.hid (below_drewN (Below.refl w8.heap.size w8) nq)
    go_wp2_with (first | (go_at_call 20; refine (HS.out _ (by first | exact HZ.out | exact HZ.out.drew)).mono ?_; rintro e wz ⟨rfl, hb⟩; replace HZ := Lib.hid (bl_step HZ.out hb); clear hb))
    go_ret
    exact ⟨by first | rfl | simp, bl_step HBx.out HZ.out⟩
  · rw [if_neg hlp] at HO
    subst HO
    have hsm : same l p = false := by simp [same, hlp]
    rw [hsm] at HS
    clear hsame hsm hlp
    have hsub : IntKind.i64.wrap ((n1 : Int) - (n2 : Int)) = ((n1 - n2 : Nat) : Int) := by rw [IntKind.wrap_i64]; omega
    have z2 : facN n2 ≠ 0 := by omega
    have z3 : facN (n1 - n2) ≠ 0 := by omega
    have z2' : (facN n2 == 0) = false := by simp; omega
    have z3' : (facN (n1 - n2) == 0) = false := by simp; omega
    clear HR1 HR2
    go_wp2_with fail
    go_quiet (refine Calls.quiet_of_same ((HFL.out _ _ (by omega)).mono fun e w' h => ⟨h.1, h.2.symm⟩))
    have HZ := Lib.hid (below_drewN (Below.refl w8.heap.size w8) nq)
    go_wp2_with (first | (go_at_call 20; refine (HS.out _ (by first | exact HZ.out | exact HZ.out.drew)).mono ?_; rintro e wz ⟨rfl, hb⟩; replace HZ := Lib.hid (bl_step HZ.out hb); clear hb))
    go_ret
    exact ⟨by first | rfl | simp, bl_step HBx.out HZ.out⟩
end Go.Proofs.YtmfilnpbkonfaaaDoor
