/- Points called by their own numbers are the ring: the law FnNamedSame. -/
import Derived.Test.YtgjgpnmldlnmgaaDraw7
import Derived.Test.YtgjgpnmldlnmgaaRingM
import Derived.Test.YtgjgpnmldlnmgaaSameI
import Derived.Test.YtgjgpnmldlnmgaaNamedM
namespace Go.Proofs.Ytgjgpnmldlnmgaa
open Go.ChangeShapes Go.WideShapes Go.ChangeAt Go.RowKit

set_option maxRecDepth 10000 in
set_option maxHeartbeats 4000000 in
theorem law_NamedSame (a0 : Option Addr) (len0 cap0 : Nat) (z0 : List Int) (w : World) (w0 : IsRow .u8 w a0 len0 cap0 z0) :
    Calls Try.prog 16 #[.slice a0 len0 cap0] w fun e w' => e = .returned (.bool true) ∧ Below w.heap.size w w' := by
  obtain ⟨h, hlc, hcm⟩ := byt_of_row w0
  have HD := Lib.hid (drawRingIn_any len0 cap0 w.heap.size a0 w h (Nat.le_refl _) hlc hcm)
  clear w0 h
  by_cases hn : len0 ≤ 1048576
  rotate_left
  · go_enter Try.func16, Try.ntmps16
    go_wp2_with fail
    go_ret
    exact ⟨rfl, Below.refl _ _⟩
  go_enter Try.func16, Try.ntmps16
  go_wp2_with fail
  refine HD.out.mono ?_
  rintro e w1 ⟨v, l, rfl, ⟨A1, n1, c1, rfl, hr1⟩, hl, hb⟩
  have HB := Lib.hid hb
  have HR1 := Lib.hid hr1
  clear hb hr1 HD
  have HC := Lib.hid (cI_RingIn HR1.out)
  go_wp2_with fail
  refine HC.out.mono ?_
  rintro e w2 ⟨rfl, hb⟩
  replace HB := Lib.hid (bl_step HB.out hb)
  replace HR1 := Lib.hid (HR1.out.step hb)
  clear hb HC
  have HC := Lib.hid (cS_RingIn HR1.out)
  go_wp2_with fail
  refine HC.out.mono ?_
  rintro e w3 ⟨rfl, hb⟩
  replace HB := Lib.hid (bl_step HB.out hb)
  replace HR1 := Lib.hid (HR1.out.step hb)
  clear hb HC
  by_cases hk : Ring l
  rotate_left
  · rw [ring_no hk]
    clear hk
    go_wp2
    go_ret
    exact ⟨rfl, HB.out⟩
  rw [ring_yes hk]
  obtain ⟨i0, hi, hz0, hz1, hz2⟩ := info_parts int_info
  have hln := HR1.out.len
  have E2 := Lib.hid (named_self hk)
  have E3 := Lib.hid (named_own hk)
  rw [hln] at E2
  have hl3 : 3 ≤ n1 := by have := hk.1.1; omega
  have hl7 : n1 ≤ 7 := by omega
  obtain ⟨q, hq⟩ : ∃ q : Nat, l.getD 1 0 = (q : Int) := ⟨(l.getD 1 0).toNat, by have := hk.1.2.2.1 _ (getD_mem l 1 (by omega)); omega⟩
  have hqn : q < n1 := by have := hk.1.2.2.1 _ (getD_mem l 1 (by omega)); omega
  rw [hq, Int.toNat_natCast] at E3
  have HQ := Lib.hid hq
  obtain ⟨b, o, e, hbb, hcs⟩ := HR1.out.at_ (by omega)
  subst e
  have HK := Lib.hid (fun (W : World) (hb : Below w3.heap.size w3 W) => (⟨(hb.cell (p := ⟨b, o + 1, none⟩) hbb).trans (by rw [← hq]; exact hcs 1 (by omega)), (hb.cell (p := ⟨b, o + q, none⟩) hbb).trans (hcs q hqn)⟩ : W.cell? ⟨b, o + 1, none⟩ = some (.int .i64 (q : Int)) ∧ W.cell? ⟨b, o + q, none⟩ = some (.int .i64 (l.getD q 0))))
  have HO0 : Hid ((w3.alloc (.cells #[] 3)).ownsRow w3.heap.size 3 1 (.slice (some ⟨w3.heap.size, 0, none⟩) 0 0) 0 (ints (upFrom 0 0))) := own_empty w3 _ (Nat.le_refl _)
  have hb0 : Hid (Below w3.heap.size w3 (w3.alloc (.cells #[] 3))) := (Below.refl _ _).alloc (Nat.le_refl _) _
  clear hk hln hq hcs HQ
  generalize l.getD q 0 = dd at *
  go_wp2
  generalize w3.alloc (.cells #[] 3) = W0 at *
  go_loopw [6, 7] (fun v i wr => ∃ k : Nat, k ≤ n1 ∧ i = .int .i64 k ∧ Hid (wr.ownsRow w3.heap.size 3 1 v k (ints (upFrom 0 k))) ∧ Hid (Below w3.heap.size w3 wr)) (fun _ i _ => n1 - (intOf i).toNat)
  case atStart => exact ⟨0, Nat.zero_le _, rfl, HO0, hb0⟩
  case round =>
    obtain ⟨k, hk, rfl, hown, hbl⟩ := hrel
    clear HO0 hb0
    by_cases hlt : k < n1
    · have hsn : Hid (ints (upFrom 0 k) ++ [.int .i64 (k : Int)] = ints (upFrom 0 (k + 1))) := by rw [Hid, upFrom_snoc]; simp [ints]
      have hsz := hbl.out.size
      go_wp2_with (at_builtin; refine wpList_append_own _ rfl _ _ 23 rfl w3.heap.size 3 i0 (.int .i64 0) 1 8 Try.underlying23 hi hz0 hz1 hz2 rfl (by decide) _ _ _ rfl (hown.out.alloc _) ⟨wr.heap.size, 0, none⟩ 1 1 [.int .i64 (k : Int)] rfl rfl (one_cell wr _ _) (by simp [Value.oneCell']) (by unfold maxLen; omega) (by omega) (by simp; omega) ?_)
      intro v' wx hown' hgrow _
      rw [hsn.out] at hown'
      have HO := Lib.hid hown'
      have HBx := Lib.hid (own_below hown.out hbl.out hsz hgrow)
      clear hown' hgrow hsn hown hbl hsz
      go_wp2
      go_roundw
      case rel => exact ⟨k + 1, by omega, by go_num, HO, HBx⟩
      case measure => simp [intOf]; omega
    · obtain rfl : k = n1 := by omega
      have hl : NewR wr _ (upFrom 0 k) := Own.newR (B := w3.heap.size) (by unfold Own; rw [upFrom_length]; exact hown.out) (by simpa using hl7)
      obtain ⟨A6, n6, c6, rfl, hr6⟩ := hl
      have HR6 := Lib.hid hr6
      have HRa := Lib.hid (HR1.out.step hbl.out)
      have HZ := hbl
      clear hr6 hown hbl HR1
      have HC := Lib.hid (cI_RingNamed HRa.out HR6.out)
      rw [E2.out.1, E2.out.2] at HC
      go_wp2_with fail
      refine HC.out.mono ?_
      rintro e wa ⟨v, rfl, ⟨A7, n7, c7, rfl, hr⟩, hb⟩
      have HR7 := Lib.hid hr
      replace HRa := Lib.hid (HRa.out.step hb)
      replace HZ := Lib.hid (bl_step HZ.out hb)
      clear hr hb HC HR6
      have HC := Lib.hid (cI_RingNamed HRa.out HRa.out)
      rw [E3.out.1, E3.out.2.1] at HC
      go_wp2_with fail
      refine HC.out.mono ?_
      rintro e wb ⟨v, rfl, ⟨A8, n8, c8, rfl, hr⟩, hb⟩
      have HR8 := Lib.hid hr
      replace HRa := Lib.hid (HRa.out.step hb)
      replace HR7 := Lib.hid (HR7.out.step hb)
      replace HZ := Lib.hid (bl_step HZ.out hb)
      clear hr hb HC
      have HC := Lib.hid (cI_RingNext HR8.out 0)
      rw [E3.out.2.2.1, E3.out.2.2.2] at HC
      go_wp2_with fail
      refine HC.out.mono ?_
      rintro e wc ⟨rfl, hb⟩
      replace HRa := Lib.hid (HRa.out.step hb)
      replace HR7 := Lib.hid (HR7.out.step hb)
      replace HZ := Lib.hid (bl_step HZ.out hb)
      clear hb HC HR8
      have HS := Lib.hid (sameI_any HR7.out HRa.out)
      rw [same_self] at HS
      have hi1 : (1 : Int) < (k : Int) := by omega
      have hiq : (q : Int) < (k : Int) := by omega
      clear HR7 HRa E2 E3
      go_wp2_with (go_at_call 22; refine HS.out.mono ?_; rintro e wd ⟨rfl, hb⟩; replace HZ := Lib.hid (bl_step HZ.out hb); have hc0 := (HK.out _ HZ.out).1; have hc1 := (HK.out _ HZ.out).2; clear hb)
      go_ret
      exact ⟨rfl, bl_step HB.out HZ.out⟩
end Go.Proofs.Ytgjgpnmldlnmgaa
