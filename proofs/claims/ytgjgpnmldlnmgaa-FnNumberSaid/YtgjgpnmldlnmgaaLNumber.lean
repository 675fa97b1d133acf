/- Numbers tell rings: the law FnNumber. -/
import Derived.Test.YtgjgpnmldlnmgaaDraw7
import Derived.Test.YtgjgpnmldlnmgaaRingM
import Derived.Test.YtgjgpnmldlnmgaaSameI
import Derived.Test.YtgjgpnmldlnmgaaRank
namespace Go.Proofs.Ytgjgpnmldlnmgaa
open Go.ChangeShapes Go.WideShapes Go.ChangeAt Go.RowKit

set_option maxRecDepth 10000 in
set_option maxHeartbeats 4000000 in
theorem law_Number (a0 : Option Addr) (len0 cap0 : Nat) (z0 : List Int) (w : World) (w0 : IsRow .u8 w a0 len0 cap0 z0) :
    Calls Try.prog 11 #[.slice a0 len0 cap0] w fun e w' => e = .returned (.bool true) ∧ Below w.heap.size w w' := by
  obtain ⟨h, hlc, hcm⟩ := byt_of_row w0
  have HD := Lib.hid (drawRingNumber_any len0 cap0 w.heap.size a0 w h (Nat.le_refl _) hlc hcm)
  clear w0 h
  by_cases hn : len0 ≤ 1048576
  rotate_left
  · go_enter Try.func11, Try.ntmps11
    go_wp2_with fail
    go_ret
    exact ⟨rfl, Below.refl _ _⟩
  go_enter Try.func11, Try.ntmps11
  go_wp2_with fail
  refine HD.out.mono ?_
  rintro e w1 ⟨v, l, rfl, ⟨A1, n1, c1, rfl, hr1⟩, hl, hb⟩
  have HB := Lib.hid hb
  have HR1 := Lib.hid hr1
  clear hb hr1 HD
  have HC := Lib.hid (cI_RingNumber HR1.out)
  go_wp2_with fail
  refine HC.out.mono ?_
  rintro e w2 ⟨rfl, hb⟩
  replace HB := Lib.hid (bl_step HB.out hb)
  replace HR1 := Lib.hid (HR1.out.step hb)
  clear hb HC
  have HC := Lib.hid (cS_RingNumber HR1.out)
  go_wp2_with fail
  refine HC.out.mono ?_
  rintro e w3 ⟨rfl, hb⟩
  replace HB := Lib.hid (bl_step HB.out hb)
  replace HR1 := Lib.hid (HR1.out.step hb)
  clear hb HC
  by_cases hk : Ring l
  rotate_left
  · rw [ring_no hk]
    clear hk
    go_wp2
    go_ret
    exact ⟨rfl, HB.out⟩
  rw [ring_yes hk]
  have hm := ring_num hk
  have hl3 := hk.1.1
  have hln := HR1.out.len
  rw [numR, if_pos hk]
  have hby : byB (n1 : Int) (numP l l.length) = true := by rw [byB, decide_eq_true_eq, ← hln]; refine ⟨by omega, by omega, hm.1, ?_⟩; rw [Int.toNat_natCast]; exact hm.2.1
  have E2 : Hid (byB (n1 : Int) (numP l l.length) = true ∧ byR (n1 : Int) (numP l l.length) = l) := ⟨hby, by rw [byR, if_pos hby, ← hln, Int.toNat_natCast]; exact hm.2.2⟩
  have E3 : Hid ((decide (3 ≤ (n1 : Int)) && decide ((n1 : Int) ≤ 7)) = true ∧ rcount (n1 : Int) = facN (l.length - 1)) := ⟨by simp; omega, by rw [rcount, if_pos (by omega), ← hln, Int.toNat_natCast]⟩
  have h0 := hm.1
  have h1 := hm.2.1
  have hf := (facN_bd (l.length - 1)).2
  clear hk hm hby hln
  generalize numP l l.length = d at *
  generalize facN (l.length - 1) = f at *
  have g0 : decide (0 ≤ d) = true := by simpa using h0
  have g1 : decide (d < f) = true := by simpa using h1
  have HC := Lib.hid (cI_RingBy (n1 : Int) d w3)
  rw [E2.out.1, E2.out.2] at HC
  go_wp2_with fail
  refine HC.out.mono ?_
  rintro e w4 ⟨v, rfl, ⟨A4, n4, c4, rfl, hr⟩, hb⟩
  replace HB := Lib.hid (bl_step HB.out hb)
  replace HR1 := Lib.hid (HR1.out.step hb)
  have HR4 := Lib.hid hr
  clear hr
  clear hb HC
  have HC := Lib.hid (cI_RingCount (n1 : Int) w4)
  rw [E3.out.1, E3.out.2] at HC
  go_wp2_with fail
  refine HC.out.mono ?_
  rintro e w5 ⟨rfl, hb⟩
  replace HB := Lib.hid (bl_step HB.out hb)
  replace HR1 := Lib.hid (HR1.out.step hb)
  replace HR4 := Lib.hid (HR4.out.step hb)
  clear hb HC
  have HS := Lib.hid (fun (W : World) (hb : Below w5.heap.size w5 W) => sameI_any (HR4.out.step hb) (HR1.out.step hb))
  rw [same_self] at HS
  clear HR1 HR4
  have HZ := Lib.hid (Below.refl w5.heap.size w5)
  go_wp2_with (first | (go_at_call 22; refine (HS.out _ (by first | exact HZ.out | exact HZ.out.drew)).mono ?_; rintro e wz ⟨rfl, hb⟩; replace HZ := Lib.hid (bl_step HZ.out hb); clear hb))
  go_ret
  exact ⟨rfl, bl_step HB.out HZ.out⟩
end Go.Proofs.Ytgjgpnmldlnmgaa
