/- Next points lead round: the law FnNext. -/
import Derived.Test.YtgjgpnmldlnmgaaDraw7
import Derived.Test.YtgjgpnmldlnmgaaRingM
import Derived.Test.YtgjgpnmldlnmgaaSameI
import Derived.Test.YtgjgpnmldlnmgaaNextM
namespace Go.Proofs.Ytgjgpnmldlnmgaa
open Go.ChangeShapes Go.WideShapes Go.ChangeAt Go.RowKit

set_option maxRecDepth 10000 in
set_option maxHeartbeats 4000000 in
theorem law_Next (a0 : Option Addr) (len0 cap0 : Nat) (z0 : List Int) (w : World) (w0 : IsRow .u8 w a0 len0 cap0 z0) :
    Calls Try.prog 7 #[.slice a0 len0 cap0] w fun e w' => e = .returned (.bool true) ∧ Below w.heap.size w w' := by
  obtain ⟨h, hlc, hcm⟩ := byt_of_row w0
  have HD := Lib.hid (drawRingNext_any len0 cap0 w.heap.size a0 w h (Nat.le_refl _) hlc hcm)
  clear w0 h
  by_cases hn : len0 ≤ 1048576
  rotate_left
  · go_enter Try.func7, Try.ntmps7
    go_wp2_with fail
    go_ret
    exact ⟨rfl, Below.refl _ _⟩
  go_enter Try.func7, Try.ntmps7
  go_wp2_with fail
  refine HD.out.mono ?_
  rintro e w1 ⟨v, l, x, rfl, ⟨A1, n1, c1, rfl, hr1⟩, hl, hb⟩
  have HB := Lib.hid hb
  have HR1 := Lib.hid hr1
  clear hb hr1 HD
  have HC := Lib.hid (cI_RingNext HR1.out x)
  go_wp2_with fail
  refine HC.out.mono ?_
  rintro e w2 ⟨rfl, hb⟩
  replace HB := Lib.hid (bl_step HB.out hb)
  replace HR1 := Lib.hid (HR1.out.step hb)
  clear hb HC
  have HC := Lib.hid (cS_RingNext HR1.out x)
  go_wp2_with fail
  refine HC.out.mono ?_
  rintro e w3 ⟨rfl, hb⟩
  replace HB := Lib.hid (bl_step HB.out hb)
  replace HR1 := Lib.hid (HR1.out.step hb)
  clear hb HC
  by_cases hk : hasB l x = true
  rotate_left
  · rw [hasB_no hk]
    clear hk
    go_wp2
    go_ret
    exact ⟨rfl, HB.out⟩
  rw [hk]
  obtain ⟨hr, _, _, hx⟩ := hasB_yes hk
  have hln := HR1.out.len
  have hl3 := hr.1.1
  have p0 : pt l x 0 = x := pt_zero hx
  have E1 := Lib.hid (fun i => pt_next hr x i)
  have E2 := Lib.hid (pt_steps hr hx)
  have E3 : Hid (∀ i, i + 1 < n1 → (pt l x (i + 1) == x) = false) := fun i hi => by simpa using pt_ne hr hx (i := i + 1) (by omega) (by omega)
  have E4 : Hid (pt l x n1 = x) := by rw [Hid, ← hln]; exact pt_full hx
  have e1 : nextR l x = pt l x 1 := by have := (E1.out 0).2; rwa [p0] at this
  rw [e1]
  have P0 := Lib.hid p0
  clear hk hr hx hln e1 p0
  generalize pt l x = P at *
  have HC := Lib.hid (cI_RingSteps HR1.out x (P 1))
  rw [E2.out.1, E2.out.2] at HC
  go_wp2_with fail
  refine HC.out.mono ?_
  rintro e w4 ⟨rfl, hb⟩
  replace HB := Lib.hid (bl_step HB.out hb)
  replace HR1 := Lib.hid (HR1.out.step hb)
  clear hb HC
  have hn7 := HR1.out.2.2.2
  go_wp2
  go_loopw [11, 12] (fun y i wr => ∃ k : Nat, k ≤ n1 ∧ y = .int .i64 (P k) ∧ i = .int .i64 k ∧ Hid (Rw wr A1 n1 c1 l) ∧ Hid (Below w.heap.size w wr)) (fun _ i _ => n1 - (intOf i).toNat)
  case atStart => exact ⟨0, Nat.zero_le _, by rw [P0.out], rfl, HR1, HB⟩
  case round =>
    obtain ⟨k, hk, rfl, rfl, hR, hB⟩ := hrel
    clear HR1 HB
    by_cases hlt : k < n1
    · have HC := Lib.hid (cI_RingNext hR.out (P k))
      rw [(E1.out k).1, (E1.out k).2] at HC
      by_cases hk1 : k + 1 < n1
      · have hne := E3.out k hk1
        go_wp2_with fail
        refine HC.out.mono ?_
        rintro e wx ⟨rfl, hb⟩
        have HRx := Lib.hid (hR.out.step hb)
        have HBx := Lib.hid (bl_step hB.out hb)
        clear hb HC hR hB
        go_wp2
        go_roundw
        case rel => exact ⟨k + 1, by omega, rfl, by go_num, HRx, HBx⟩
        case measure => simp [intOf]; omega
      · have hkn : k + 1 = n1 := by omega
        have e4 := E4.out
        rw [← hkn] at e4
        rw [e4] at HC
        have e5 := Lib.hid e4
        have hw : IntKind.i64.wrap ((n1 : Int) - 1) = (k : Int) := by rw [IntWalk.i64_in _ (by omega)]; omega
        clear e4
        go_wp2_with fail
        refine HC.out.mono ?_
        rintro e wx ⟨rfl, hb⟩
        have HRx := Lib.hid (hR.out.step hb)
        have HBx := Lib.hid (bl_step hB.out hb)
        clear hb HC hR hB
        go_wp2
        go_roundw
        case rel => exact ⟨k + 1, by omega, by rw [e5.out], by go_num, HRx, HBx⟩
        case measure => simp [intOf]; omega
    · obtain rfl : k = n1 := by omega
      have e4 := E4.out
      rw [e4]
      have HBx := hB
      clear e4 E1 E2 E3 hR hB
      go_wp2
      go_ret
      exact ⟨rfl, HBx.out⟩
end Go.Proofs.Ytgjgpnmldlnmgaa
