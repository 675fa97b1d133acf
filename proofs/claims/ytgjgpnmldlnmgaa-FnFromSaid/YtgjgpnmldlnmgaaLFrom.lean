/- Points between and points beyond are all others: the law FnFrom. -/
import Derived.Test.YtgjgpnmldlnmgaaDraw7
import Derived.Test.YtgjgpnmldlnmgaaRingM
import Derived.Test.YtgjgpnmldlnmgaaSameI
namespace Go.Proofs.Ytgjgpnmldlnmgaa
open Go.ChangeShapes Go.WideShapes Go.ChangeAt Go.RowKit

set_option maxRecDepth 10000 in
set_option maxHeartbeats 4000000 in
theorem law_From (a0 : Option Addr) (len0 cap0 : Nat) (z0 : List Int) (w : World) (w0 : IsRow .u8 w a0 len0 cap0 z0) :
    Calls Try.prog 8 #[.slice a0 len0 cap0] w fun e w' => e = .returned (.bool true) ∧ Below w.heap.size w w' := by
  obtain ⟨h, hlc, hcm⟩ := byt_of_row w0
  have HD := Lib.hid (drawRingFrom_any len0 cap0 w.heap.size a0 w h (Nat.le_refl _) hlc hcm)
  clear w0 h
  by_cases hn : len0 ≤ 1048576
  rotate_left
  · go_enter Try.func8, Try.ntmps8
    go_wp2_with fail
    go_ret
    exact ⟨rfl, Below.refl _ _⟩
  go_enter Try.func8, Try.ntmps8
  go_wp2_with fail
  refine HD.out.mono ?_
  rintro e w1 ⟨v, l, x, y, rfl, ⟨A1, n1, c1, rfl, hr1⟩, hl, hb⟩
  have HB := Lib.hid hb
  have HR1 := Lib.hid hr1
  clear hb hr1 HD
  have HC := Lib.hid (cI_RingFrom HR1.out x y)
  go_wp2_with fail
  refine HC.out.mono ?_
  rintro e w2 ⟨v, rfl, ⟨A2, n2, c2, rfl, hr⟩, hb⟩
  replace HB := Lib.hid (bl_step HB.out hb)
  replace HR1 := Lib.hid (HR1.out.step hb)
  have HR2 := Lib.hid hr
  clear hr
  clear hb HC
  have HC := Lib.hid (cS_RingFrom HR1.out x y)
  go_wp2_with fail
  refine HC.out.mono ?_
  rintro e w3 ⟨v, rfl, ⟨A3, n3, c3, rfl, hr⟩, hb⟩
  replace HB := Lib.hid (bl_step HB.out hb)
  replace HR1 := Lib.hid (HR1.out.step hb)
  replace HR2 := Lib.hid (HR2.out.step hb)
  have HR3 := Lib.hid hr
  clear hr
  clear hb HC
  have HS := Lib.hid (fun (W : World) (hb : Below w3.heap.size w3 W) => sameG_any (c' := c2) (d' := c3) (HR2.out.step hb) (HR3.out.step hb))
  rw [same_self] at HS
  by_cases hk : hasB2 l x y = true
  rotate_left
  · rw [hasB2_no hk]
    clear hk HR1 HR2 HR3
    have HZ := Lib.hid (Below.refl w3.heap.size w3)
    go_wp2_with (first | (go_at_call 22; refine (HS.out _ (by first | exact HZ.out | exact HZ.out.drew)).mono ?_; rintro e wz ⟨rfl, hb⟩; replace HZ := Lib.hid (bl_step HZ.out hb); clear hb))
    go_ret
    exact ⟨rfl, bl_step HB.out HZ.out⟩
  rw [hk]
  obtain ⟨hx', hy'⟩ := hasB2_yes hk
  obtain ⟨hr, _, _, hx⟩ := hasB_yes hx'
  obtain ⟨_, _, _, hy⟩ := hasB_yes hy'
  have hk' : hasB2 l y x = true := by rw [hasB2, hx', hy']; rfl
  have E2 : Hid (hasB2 l x y = true ∧ stepsR l x y = stepsI l x y) := ⟨hk, by rw [stepsR, if_pos hk]⟩
  have E3 : Hid (hasB2 l y x = true) := hk'
  have hln := Lib.hid HR1.out.len
  have hln2 : Hid (n2 = endN l x y - 1) := by
    have := HR2.out.len
    rw [fromR, if_pos hk, fromL_length l x y (by rw [cutL_length]; exact (endN_of l x y hr.1 hx hy).2.1)] at this
    exact this.symm
  have hbk : Hid ((fromR l y x).length = endN l y x - 1) := by
    rw [Hid, fromR, if_pos hk', fromL_length l y x (by rw [cutL_length]; exact (endN_of l y x hr.1 hy hx).2.1)]
  have hz := Lib.hid (steps_zero l x y hr.1 hx hy)
  have hz2 := Lib.hid (steps_zero l y x hr.1 hy hx)
  have he := Lib.hid (endN_of l x y hr.1 hx hy)
  have he2 := Lib.hid (endN_of l y x hr.1 hy hx)
  have hs : Hid (x ≠ y → stepsI l y x = (n1 : Int) - stepsI l x y) := fun h => by rw [← hln.out]; exact steps_back hr.1 hx hy (idx_apart hx hy h)
  have h3 := hr.1.1
  clear hk hk' hx' hy' hr hx hy
  have HZ := Lib.hid (Below.refl w3.heap.size w3)
  go_wp2_with (first | (go_at_call 22; refine (HS.out _ (by first | exact HZ.out | exact HZ.out.drew)).mono ?_; rintro e wz ⟨rfl, hb⟩; replace HZ := Lib.hid (bl_step HZ.out hb); clear hb))
  replace HB := Lib.hid (bl_step HB.out HZ.out)
  replace HR1 := Lib.hid (HR1.out.step HZ.out)
  replace HR2 := Lib.hid (HR2.out.step HZ.out)
  clear HR3
  clear HZ HS
  have HC := Lib.hid (cI_RingSteps HR1.out x y)
  rw [E2.out.1, E2.out.2] at HC
  go_wp2_with fail
  refine HC.out.mono ?_
  rintro e w4 ⟨rfl, hb⟩
  replace HB := Lib.hid (bl_step HB.out hb)
  replace HR1 := Lib.hid (HR1.out.step hb)
  replace HR2 := Lib.hid (HR2.out.step hb)
  clear hb HC
  have HC := Lib.hid (cI_RingFrom HR1.out y x)
  rw [E3.out] at HC
  go_wp2_with fail
  refine HC.out.mono ?_
  rintro e w5 ⟨v, rfl, ⟨A4, n4, c4, rfl, hr⟩, hb⟩
  replace HB := Lib.hid (bl_step HB.out hb)
  clear HR1
  clear HR2
  have HR4 := Lib.hid hr
  clear hr
  clear hb HC
  have hln4 := Lib.hid HR4.out.len
  rw [hbk.out] at hln4
  have a1 := hln.out
  have a2 := hln2.out
  have a4 := hln4.out
  have b1 := hz.out
  have b2 := hz2.out
  have b3 := he.out
  have b4 := he2.out
  have b5 := hs.out
  clear HR4 hln hln2 hln4 hz hz2 he he2 hs hbk E2 E3
  generalize stepsI l x y = d at *
  generalize stepsI l y x = d' at *
  generalize endN l x y = p at *
  generalize endN l y x = p' at *
  by_cases hxy : x = y
  · have e0 := b1.1.2 hxy
    rw [if_pos e0] at b3
    have hb : (x == y) = true := by simpa using hxy
    have w1' : Hid (IntKind.i64.wrap ((n1 : Int) - 1) = (n1 : Int) - 1) := IntWalk.i64_in _ (by omega)
    have w2' : Hid (((n2 : Int) == (n1 : Int) - 1) = true) := by rw [Hid, beq_iff_eq]; omega
    clear a1 a2 a4 b1 b2 b3 b4 b5 e0 hxy
    have w1'' := w1'.out
    have w2'' := w2'.out
    clear w1' w2'
    go_wp2
    go_ret
    exact ⟨rfl, HB.out⟩
  · have e0 : d ≠ 0 := fun e => hxy (b1.1.1 e)
    have e0' : d' ≠ 0 := fun e => hxy (b2.1.1 e).symm
    rw [if_neg e0] at b3
    rw [if_neg e0'] at b4
    have e5 := b5 hxy
    have hb : (x == y) = false := by simpa using hxy
    have hb' : (x != y) = true := by simpa using hxy
    have w1' : Hid (IntKind.i64.wrap (d - 1) = d - 1) := IntWalk.i64_in _ (by omega)
    have w2' : Hid (((n2 : Int) == d - 1) = true) := by rw [Hid, beq_iff_eq]; omega
    have w3' : Hid (IntKind.i64.wrap ((n2 : Int) + (n4 : Int)) = (n2 : Int) + (n4 : Int)) := IntWalk.i64_in _ (by omega)
    have w4' : Hid (IntKind.i64.wrap ((n1 : Int) - 2) = (n1 : Int) - 2) := IntWalk.i64_in _ (by omega)
    have w5' : Hid (((n2 : Int) + (n4 : Int) == (n1 : Int) - 2) = true) := by rw [Hid, beq_iff_eq]; omega
    clear a1 a2 a4 b1 b2 b3 b4 b5 e0 e0' e5 hxy
    have w1'' := w1'.out
    have w2'' := w2'.out
    have w3'' := w3'.out
    have w4'' := w4'.out
    have w5'' := w5'.out
    clear w1' w2' w3' w4' w5'
    go_wp2
    go_ret
    exact ⟨rfl, HB.out⟩
end Go.Proofs.Ytgjgpnmldlnmgaa
