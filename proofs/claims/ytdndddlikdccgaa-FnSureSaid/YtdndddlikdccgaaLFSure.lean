/- Sure threes are half at most, or all: the law FnSure. -/
import Derived.Test.YtdndddlikdccgaaDraw31
import Derived.Test.YtdndddlikdccgaaLawG
import Derived.Test.YtdndddlikdccgaaTgM
namespace Go.Proofs.Ytdndddlikdccgaa
open Go.ChangeShapes Go.WideShapes Go.ChangeAt Go.RowKit

set_option maxRecDepth 10000 in
set_option maxHeartbeats 4000000 in
theorem law_Sure (a0 : Option Addr) (len0 cap0 : Nat) (z0 : List Int) (w : World) (w0 : IsRow .u8 w a0 len0 cap0 z0) :
    Calls Try.prog 8 #[.slice a0 len0 cap0] w fun e w' => e = .returned (.bool true) ∧ Below w.heap.size w w' := by
  obtain ⟨h, hlc, hcm⟩ := byt_of_row w0
  have HD := Lib.hid (drawTSure_any len0 cap0 w.heap.size a0 w h (Nat.le_refl _) hlc hcm)
  clear w0 h
  by_cases hn : len0 ≤ 1048576
  rotate_left
  · go_enter Try.func8, Try.ntmps8
    go_wp2_with fail
    go_ret
    exact ⟨rfl, Below.refl _ _⟩
  go_enter Try.func8, Try.ntmps8
  go_wp2_with fail
  refine HD.out.mono ?_
  rintro e w1 ⟨m, A1, n1, c1, L, rfl, hr1, ⟨hnc1, hcm1, hn8, hm3, hm10⟩, hb⟩
  have HB := Lib.hid hb
  have HR1 := Lib.hid hr1
  clear hb hr1 HD
  have HC := Lib.hid (cI_ThreeSure HR1.out (m : Int))
  go_wp2_with fail
  refine HC.out.mono ?_
  rintro e w2 ⟨v, rfl, ⟨A2, n2, c2, rfl, hr⟩, hb⟩
  replace HB := Lib.hid (bl_step HB.out hb)
  replace HR1 := Lib.hid (HR1.out.step hb)
  have HR2 := Lib.hid hr
  clear hr
  clear hb HC
  have HC := Lib.hid (cS_ThreeSure HR1.out (m : Int))
  go_wp2_with fail
  refine HC.out.mono ?_
  rintro e w3 ⟨v, rfl, ⟨A3, n3, c3, rfl, hr⟩, hb⟩
  replace HB := Lib.hid (bl_step HB.out hb)
  replace HR1 := Lib.hid (HR1.out.step hb)
  replace HR2 := Lib.hid (HR2.out.step hb)
  have HR3 := Lib.hid hr
  clear hr
  clear hb HC
  have HS := Lib.hid (fun (W : World) (hb : Below w3.heap.size w3 W) => sameS_any (HR2.out.step hb) (HR3.out.step hb))
  rw [sameR_self] at HS
  by_cases hk : Tel (m : Int) L
  rotate_left
  · rw [(tel_no hk).1]
    clear hk HR1 HR2 HR3
    have HZ := Lib.hid (Below.refl w3.heap.size w3)
    go_wp2_with (first | (go_at_call 20; refine (HS.out _ (by first | exact HZ.out | exact HZ.out.drew)).mono ?_; rintro e wz ⟨rfl, hb⟩; replace HZ := Lib.hid (bl_step HZ.out hb); clear hb))
    go_ret
    exact ⟨rfl, bl_step HB.out HZ.out⟩
  have E0 := Lib.hid (tel_yes hk).1
  have hcnt := sure_count (n := m) (R := agreeL m L) (by have := hk.1; omega) (by have := hk.2.1; omega) (fun l hl => (mem_agree.1 hl).1) (List.Pairwise.filter _ (tg_rings (by have := hk.1; omega) (by have := hk.2.1; omega)).1)
  have e1 : suR (m : Int) L = sharedL m (agreeL m L) := by rw [suR, if_pos hk, Int.toNat_natCast]
  have e2 : rgR (m : Int) L = ((agreeL m L).length : Nat) := by rw [rgR, if_pos hk, Int.toNat_natCast]
  have hln := HR2.out.len
  rw [e1] at hln
  rw [hln] at hcnt
  have hn7 : n2 ≤ 343 := by
    rw [← hln]
    have := (half_key ⟨m, by have := hk.2.1; omega⟩ (by have := hk.1; simp; omega)).2
    simp only at this
    have h4 : (sharedL m (agreeL m L)).length ≤ (everyL m).length := List.length_filter_le _ _
    obtain h | h | h | h : m = 3 ∨ m = 4 ∨ m = 5 ∨ m = 6 := by have := hk.1; have := hk.2.1; omega
    all_goals
      subst h
      simp at this
      omega
  obtain ⟨y, hy⟩ : ∃ y, y = (agreeL m L).length := ⟨_, rfl⟩
  rw [← hy] at hcnt e2
  have hm36 : m = 3 ∨ m = 4 ∨ m = 5 ∨ m = 6 := by have := hk.1; have := hk.2.1; omega
  have E2 := Lib.hid e2
  have HCNT := Lib.hid hcnt
  rw [E0.out]
  clear hk hcnt e1 e2 hy hln
  have HZ := Lib.hid (Below.refl w3.heap.size w3)
  go_wp2_with (first | (go_at_call 20; refine (HS.out _ (by first | exact HZ.out | exact HZ.out.drew)).mono ?_; rintro e wz ⟨rfl, hb⟩; replace HZ := Lib.hid (bl_step HZ.out hb); clear hb))
  replace HB := Lib.hid (bl_step HB.out HZ.out)
  replace HR1 := Lib.hid (HR1.out.step HZ.out)
  clear HR2
  clear HR3
  clear HZ HS
  have HC := Lib.hid (cI_ThreeRings HR1.out (m : Int))
  rw [E0.out, E2.out] at HC
  go_wp2_with fail
  refine HC.out.mono ?_
  rintro e w4 ⟨rfl, hb⟩
  replace HB := Lib.hid (bl_step HB.out hb)
  clear HR1
  clear hb HC
  clear E0 E2
  obtain rfl | rfl | rfl | rfl := hm36
  · have hc := HCNT.out
    simp at hc
    have b1 : ((n2 : Int) == 6) = ((y : Int) == 0) := by
      rw [Bool.eq_iff_iff, beq_iff_eq, beq_iff_eq]
      omega
    have b2 : (2 * (n2 : Int) == 6) = ((y : Int) == 1) := by
      rw [Bool.eq_iff_iff, beq_iff_eq, beq_iff_eq]
      omega
    clear hc HCNT
    go_wp2
    go_ret
    exact ⟨rfl, HB.out⟩
  · have hc := HCNT.out
    simp at hc
    have b1 : ((n2 : Int) == 24) = ((y : Int) == 0) := by
      rw [Bool.eq_iff_iff, beq_iff_eq, beq_iff_eq]
      omega
    have b2 : (2 * (n2 : Int) == 24) = ((y : Int) == 1) := by
      rw [Bool.eq_iff_iff, beq_iff_eq, beq_iff_eq]
      omega
    clear hc HCNT
    go_wp2
    go_ret
    exact ⟨rfl, HB.out⟩
  · have hc := HCNT.out
    simp at hc
    have b1 : ((n2 : Int) == 60) = ((y : Int) == 0) := by
      rw [Bool.eq_iff_iff, beq_iff_eq, beq_iff_eq]
      omega
    have b2 : (2 * (n2 : Int) == 60) = ((y : Int) == 1) := by
      rw [Bool.eq_iff_iff, beq_iff_eq, beq_iff_eq]
      omega
    clear hc HCNT
    go_wp2
    go_ret
    exact ⟨rfl, HB.out⟩
  · have hc := HCNT.out
    simp at hc
    have b1 : ((n2 : Int) == 120) = ((y : Int) == 0) := by
      rw [Bool.eq_iff_iff, beq_iff_eq, beq_iff_eq]
      omega
    have b2 : (2 * (n2 : Int) == 120) = ((y : Int) == 1) := by
      rw [Bool.eq_iff_iff, beq_iff_eq, beq_iff_eq]
      omega
    clear hc HCNT
    go_wp2
    go_ret
    exact ⟨rfl, HB.out⟩
end Go.Proofs.Ytdndddlikdccgaa
