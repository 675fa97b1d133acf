/- Windings are as often k as all points less k: the law FnWindSums. -/
import Derived.Test.YtbfdbnminjhocaaDraw12
import Derived.Test.YtbfdbnminjhocaaWindO
import Derived.Test.YtbfdbnminjhocaaSameI
namespace Go.Proofs.Ytbfdbnminjhocaa
open Go.ChangeShapes Go.WideShapes Go.ChangeAt Go.RowKit

set_option maxRecDepth 10000 in
set_option maxHeartbeats 4000000 in
theorem law_WindSums (a0 : Option Addr) (len0 cap0 : Nat) (z0 : List Int) (w : World) (w0 : IsRow .u8 w a0 len0 cap0 z0) :
    Calls Try.prog 6 #[.slice a0 len0 cap0] w fun e w' => e = .returned (.bool true) ∧ Below w.heap.size w w' := by
  obtain ⟨h, hlc, hcm⟩ := byt_of_row w0
  have HD := Lib.hid (drawWindSums_any len0 cap0 w.heap.size a0 w h (Nat.le_refl _) hlc hcm)
  clear w0 h
  by_cases hn : len0 ≤ 1048576
  rotate_left
  · go_enter Try.func6, Try.ntmps6
    go_wp2_with fail
    go_ret
    exact ⟨rfl, Below.refl _ _⟩
  go_enter Try.func6, Try.ntmps6
  go_wp2_with fail
  refine HD.out.mono ?_
  rintro e w1 ⟨x, rfl, hl, hb⟩
  have HB := Lib.hid hb
  clear hb  HD
  have HC := Lib.hid (cI_WindSums x w1)
  go_wp2_with fail
  refine HC.out.mono ?_
  rintro e w2 ⟨v, rfl, ⟨A2, n2, c2, rfl, hr⟩, hb⟩
  replace HB := Lib.hid (bl_step HB.out hb)
  have HR2 := Lib.hid hr
  clear hr
  clear hb HC
  have HC := Lib.hid (cS_WindSums x w2)
  go_wp2_with fail
  refine HC.out.mono ?_
  rintro e w3 ⟨v, rfl, ⟨A3, n3, c3, rfl, hr⟩, hb⟩
  replace HB := Lib.hid (bl_step HB.out hb)
  replace HR2 := Lib.hid (HR2.out.step hb)
  have HR3 := Lib.hid hr
  clear hr
  clear hb HC
  have HS := Lib.hid (fun (W : World) (hb : Below w3.heap.size w3 W) => sameI_any (HR2.out.step hb) (HR3.out.step hb))
  rw [same_self] at HS
  by_cases hk : wcB x = true
  rotate_left
  · rw [wc_no hk]
    clear hk HR2 HR3
    have HZ := Lib.hid (Below.refl w3.heap.size w3)
    go_wp2_with (first | (go_at_call 25; refine (HS.out _ (by first | exact HZ.out | exact HZ.out.drew)).mono ?_; rintro e wz ⟨rfl, hb⟩; replace HZ := Lib.hid (bl_step HZ.out hb); clear hb))
    go_ret
    exact ⟨rfl, bl_step HB.out HZ.out⟩
  rw [hk]
  obtain ⟨m, hm, h3, h7, e1, e2⟩ := wcR_is hk
  subst hm
  have hf := cnt_facts h3 h7
  rw [e2, hf.1] at HR2
  have HSY := Lib.hid hf.2.2.2.1
  have H0 := Lib.hid hf.2.2.2.2
  have hn2 : m = n2 := by have := HR2.out.len; rw [cntL_length] at this; exact this
  subst hn2
  have HBD := Lib.hid hf.2.2.1
  clear hk hf e1 e2 hl
  have HZ := Lib.hid (Below.refl w3.heap.size w3)
  go_wp2_with (first | (go_at_call 25; refine (HS.out _ (by first | exact HZ.out | exact HZ.out.drew)).mono ?_; rintro e wz ⟨rfl, hb⟩; replace HZ := Lib.hid (bl_step HZ.out hb); clear hb))
  replace HB := Lib.hid (bl_step HB.out HZ.out)
  replace HR2 := Lib.hid (HR2.out.step HZ.out)
  clear HR3
  clear HZ HS
  obtain ⟨b, o, e, hbb, hcs⟩ := HR2.out.at_ (by omega)
  subst e
  have HK := Lib.hid (fun (W : World) (hb : Below wz.heap.size wz W) (k : Nat) (hk : k < m) => ((hb.cell (p := ⟨b, o + k, none⟩) hbb).trans (hcs k hk) : W.cell? ⟨b, o + k, none⟩ = some (.int .i64 ((cntL m).getD k 0))))
  clear hcs HR2
  generalize cntL m = C at *
  have HZ0 := Lib.hid (Below.refl wz.heap.size wz)
  go_wp2
  go_loopw [8] (fun i wr => ∃ k : Nat, 1 ≤ k ∧ k ≤ m ∧ i = .int .i64 k ∧ Hid (Below wz.heap.size wz wr)) (fun i _ => m - (intOf i).toNat)
  case atStart => exact ⟨1, Nat.le_refl _, by omega, rfl, HZ0⟩
  case round =>
    obtain ⟨k, hk1, hk, rfl, hZ⟩ := hrel
    clear HZ0
    by_cases hlt : k < m
    · have hc := HK.out _ hZ.out k hlt
      have hc' := HK.out _ hZ.out (m - k) (by omega)
      rw [← HSY.out k hlt hk1] at hc'
      obtain ⟨q, hq⟩ : ∃ q, q = m - k := ⟨_, rfl⟩
      rw [← hq] at hc'
      have hw : IntKind.i64.wrap ((m : Int) - (k : Int)) = (q : Int) := by rw [IntWalk.i64_in _ (by omega)]; omega
      have hqm : (q : Int) < (m : Int) := by omega
      generalize C.getD k 0 = d at *
      have hb : (d != d) = false := by simp
      clear HK HSY H0 HBD hq
      go_wp2
      go_quiet (fail)
      go_wp2
      go_roundw
      case rel => exact ⟨k + 1, by omega, by omega, by go_num, Lib.hid (below_drewN hZ.out _)⟩
      case measure => simp [intOf]; omega
    · obtain rfl : k = m := by omega
      have hc0 : wr.cell? ⟨b, o, none⟩ = some (.int .i64 (C.getD 0 0)) := HK.out _ hZ.out 0 (by omega)
      have hc1 := HK.out _ hZ.out 1 (by omega)
      rw [H0.out.1] at hc0
      rw [H0.out.2] at hc1
      have hi0 : 0 < k := by omega
      have hi1 : (1 : Int) < (k : Int) := by omega
      clear HK HSY H0 HBD
      go_wp2
      go_ret
      exact ⟨rfl, bl_step HB.out hZ.out⟩
end Go.Proofs.Ytbfdbnminjhocaa
