/- Asking rings and going on count the same: the law FnWindCounts. -/
import Derived.Test.YtbfdbnminjhocaaDraw12
import Derived.Test.YtbfdbnminjhocaaWindO
import Derived.Test.YtbfdbnminjhocaaSameI
namespace Go.Proofs.Ytbfdbnminjhocaa
open Go.ChangeShapes Go.WideShapes Go.ChangeAt Go.RowKit

set_option maxRecDepth 10000 in
set_option maxHeartbeats 4000000 in
theorem law_WindCounts (a0 : Option Addr) (len0 cap0 : Nat) (z0 : List Int) (w : World) (w0 : IsRow .u8 w a0 len0 cap0 z0) :
    Calls Try.prog 5 #[.slice a0 len0 cap0] w fun e w' => e = .returned (.bool true) ∧ Below w.heap.size w w' := by
  obtain ⟨h, hlc, hcm⟩ := byt_of_row w0
  have HD := Lib.hid (drawWindCounts_any len0 cap0 w.heap.size a0 w h (Nat.le_refl _) hlc hcm)
  clear w0 h
  by_cases hn : len0 ≤ 1048576
  rotate_left
  · go_enter Try.func5, Try.ntmps5
    go_wp2_with fail
    go_ret
    exact ⟨rfl, Below.refl _ _⟩
  go_enter Try.func5, Try.ntmps5
  go_wp2_with fail
  refine HD.out.mono ?_
  rintro e w1 ⟨x, rfl, hl, hb⟩
  have HB := Lib.hid hb
  clear hb  HD
  have HC := Lib.hid (cI_WindCounts x w1)
  go_wp2_with fail
  refine HC.out.mono ?_
  rintro e w2 ⟨v, rfl, ⟨A2, n2, c2, rfl, hr⟩, hb⟩
  replace HB := Lib.hid (bl_step HB.out hb)
  have HR2 := Lib.hid hr
  clear hr
  clear hb HC
  have HC := Lib.hid (cS_WindCounts x w2)
  go_wp2_with fail
  refine HC.out.mono ?_
  rintro e w3 ⟨v, rfl, ⟨A3, n3, c3, rfl, hr⟩, hb⟩
  replace HB := Lib.hid (bl_step HB.out hb)
  replace HR2 := Lib.hid (HR2.out.step hb)
  have HR3 := Lib.hid hr
  clear hr
  clear hb HC
  have HS := Lib.hid (fun (W : World) (hb : Below w3.heap.size w3 W) => sameI_any (HR2.out.step hb) (HR3.out.step hb))
  rw [same_self] at HS
  by_cases hk : wcB x = true
  rotate_left
  · rw [wc_no hk]
    clear hk HR2 HR3
    have HZ := Lib.hid (Below.refl w3.heap.size w3)
    go_wp2_with (first | (go_at_call 25; refine (HS.out _ (by first | exact HZ.out | exact HZ.out.drew)).mono ?_; rintro e wz ⟨rfl, hb⟩; replace HZ := Lib.hid (bl_step HZ.out hb); clear hb))
    go_ret
    exact ⟨rfl, bl_step HB.out HZ.out⟩
  rw [hk]
  obtain ⟨m, hm, h3, h7, e1, e2⟩ := wcR_is hk
  have hf := cnt_facts h3 h7
  have E2 : Hid (wcB x = true ∧ wsR x = cntL m) := ⟨hk, by rw [e2, hf.1]⟩
  have E3 : Hid ((decide (3 ≤ x) && decide (x ≤ 7)) = true ∧ rcount x = sumL (cntL m)) := ⟨by simp; omega, by rw [rcount, if_pos (by omega), hf.2.1, hm, Int.toNat_natCast]⟩
  rw [e1] at HR2
  have hn2 : n2 = m := by have := HR2.out.len; rw [cntL_length] at this; exact this.symm
  have HBD : Hid (∀ k, k < n2 → -1000000 ≤ (cntL m).getD k 0 ∧ (cntL m).getD k 0 ≤ 1000000) := fun k hk => by have := hf.2.2.1 k (by omega); omega
  clear hk hf e1 e2 hn2 hm
  have HZ := Lib.hid (Below.refl w3.heap.size w3)
  go_wp2_with (first | (go_at_call 25; refine (HS.out _ (by first | exact HZ.out | exact HZ.out.drew)).mono ?_; rintro e wz ⟨rfl, hb⟩; replace HZ := Lib.hid (bl_step HZ.out hb); clear hb))
  replace HB := Lib.hid (bl_step HB.out HZ.out)
  replace HR2 := Lib.hid (HR2.out.step HZ.out)
  clear HR3
  clear HZ HS
  have HC := Lib.hid (cI_WindSums x wz)
  rw [E2.out.1, E2.out.2] at HC
  go_wp2_with fail
  refine HC.out.mono ?_
  rintro e w4 ⟨v, rfl, ⟨A4, n4, c4, rfl, hr⟩, hb⟩
  replace HB := Lib.hid (bl_step HB.out hb)
  replace HR2 := Lib.hid (HR2.out.step hb)
  have HR4 := Lib.hid hr
  clear hr
  clear hb HC
  have HC := Lib.hid (cI_RingCount x w4)
  rw [E3.out.1, E3.out.2] at HC
  go_wp2_with fail
  refine HC.out.mono ?_
  rintro e w5 ⟨rfl, hb⟩
  replace HB := Lib.hid (bl_step HB.out hb)
  replace HR2 := Lib.hid (HR2.out.step hb)
  replace HR4 := Lib.hid (HR4.out.step hb)
  clear hb HC
  have HS1 := Lib.hid (fun (W : World) (hb : Below w5.heap.size w5 W) => sameI_any (HR4.out.step hb) (HR2.out.step hb))
  rw [same_self] at HS1
  have HS2 := Lib.hid (fun (W : World) (hb : Below w5.heap.size w5 W) => total_any (HR2.out.step hb) HBD.out)
  clear HR2 HR4 E2 E3
  generalize sumL (cntL m) = d at *
  have HZ := Lib.hid (Below.refl w5.heap.size w5)
  go_wp2_with (first | (go_at_call 25; refine (HS1.out _ (by first | exact HZ.out | exact HZ.out.drew)).mono ?_; rintro e wz ⟨rfl, hb⟩; replace HZ := Lib.hid (bl_step HZ.out hb); clear hb) | (go_at_call 28; refine (HS2.out _ (by first | exact HZ.out | exact HZ.out.drew)).mono ?_; rintro e wz ⟨rfl, hb⟩; replace HZ := Lib.hid (bl_step HZ.out hb); clear hb))
  go_ret
  exact ⟨rfl, bl_step HB.out HZ.out⟩
end Go.Proofs.Ytbfdbnminjhocaa
