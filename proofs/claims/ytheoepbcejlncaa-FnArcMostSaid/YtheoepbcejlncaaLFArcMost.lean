/- Most arcs are all just if some ring has them: the law FnArcMost. -/
import Derived.Test.YtheoepbcejlncaaDraw16
import Derived.Test.YtheoepbcejlncaaMArcM
namespace Go.Proofs.Ytheoepbcejlncaa
open Go.ChangeShapes Go.WideShapes Go.ChangeAt Go.RowKit

set_option maxRecDepth 10000 in
set_option maxHeartbeats 4000000 in
theorem law_ArcMost (a0 : Option Addr) (len0 cap0 : Nat) (z0 : List Int) (w : World) (w0 : IsRow .u8 w a0 len0 cap0 z0) :
    Calls Try.prog 10 #[.slice a0 len0 cap0] w fun e w' => e = .returned (.bool true) ∧ Below w.heap.size w w' := by
  obtain ⟨h, hlc, hcm⟩ := byt_of_rowF w0
  have HD := Lib.hid (drawArcMost_any len0 cap0 w.heap.size a0 w h (Nat.le_refl _) hlc hcm)
  clear w0 h
  by_cases hn : len0 ≤ 1048576
  rotate_left
  · go_enter Try.func10, Try.ntmps10
    go_wp2_with fail
    go_ret
    exact ⟨rfl, Below.refl _ _⟩
  go_enter Try.func10, Try.ntmps10
  go_wp2_with fail
  refine HD.out.mono ?_
  rintro e w1 ⟨v, L, x, rfl, ⟨A1, n1, c1, rfl, hr1⟩, hl, hb⟩
  have HB := Lib.hid hb
  have HR1 := Lib.hid hr1
  clear hb hr1 HD
  have HC := Lib.hid (cI_ArcMost HR1.out x)
  go_wp2_with fail
  refine HC.out.mono ?_
  rintro e w2 ⟨rfl, hb⟩
  replace HB := Lib.hid (bl_step HB.out hb)
  replace HR1 := Lib.hid (HR1.out.step hb)
  clear hb HC
  have HC := Lib.hid (cS_ArcMost HR1.out x)
  go_wp2_with fail
  refine HC.out.mono ?_
  rintro e w3 ⟨rfl, hb⟩
  replace HB := Lib.hid (bl_step HB.out hb)
  replace HR1 := Lib.hid (HR1.out.step hb)
  clear hb HC
  cases hf : famB x L with
  | false =>
    generalize amR x L = F
    have h1 : (F != F) = false := by simp
    have h3 : (F == F) = true := by simp
    clear hf HR1
    go_wp2
    go_ret
    exact ⟨rfl, HB.out⟩
  | true =>
    obtain ⟨M, r, e1, e2, hM, hiff, hpos, hr, hM10⟩ := most_told hf
    rw [e1]
    have hn := HR1.out.len
    rw [hn] at hM hiff hpos
    have HC := Lib.hid (cI_ArcRingsM HR1.out x)
    rw [e2, hf] at HC
    have h1 : ((M : Int) != (M : Int)) = false := by simp
    have h7 := HR1.out.2.2.2
    have hd1 : decide ((M : Int) ≤ (n1 : Int)) = true := by simp; omega
    clear e1 e2 hf hn hl HR1
    have HB0 := Lib.hid HB.out
    by_cases hMn : M = n1
    · have hr0 := hiff.1 hMn
      subst hMn
      have hg : decide (0 < (r : Int)) = true := by simp; omega
      have hee : ((M : Int) == (M : Int)) = true := by simp
      rcases Nat.eq_zero_or_pos M with h0 | h0
      · subst h0
        clear hiff hpos
        go_wp2_with fail
        refine HC.out.mono ?_
        rintro e w4 ⟨rfl, hb4⟩
        have HB4 := Lib.hid (bl_step HB0.out hb4)
        clear hb4
        go_wp2
        go_ret
        exact ⟨by first | rfl | simp, HB4.out⟩
      · have hne : ((M : Int) == 0) = false := by simp; omega
        have hge : decide ((M : Int) ≥ 1) = true := by simp; omega
        have hge2 : decide (1 ≤ (M : Int)) = true := by simp; omega
        clear hiff hpos
        go_wp2_with fail
        refine HC.out.mono ?_
        rintro e w4 ⟨rfl, hb4⟩
        have HB4 := Lib.hid (bl_step HB0.out hb4)
        clear hb4
        go_wp2
        go_ret
        exact ⟨by first | rfl | simp, HB4.out⟩
    · have hr0 : r = 0 := by
        rcases Nat.eq_zero_or_pos r with h0 | h0
        · exact h0
        · exact absurd (hiff.2 h0) hMn
      subst hr0
      have hne2 : ((M : Int) == (n1 : Int)) = false := by simp; omega
      have hn0 : 0 < n1 := by omega
      have hM1 := hpos hn0
      have hne : ((n1 : Int) == 0) = false := by simp; omega
      have hge2 : decide (1 ≤ (M : Int)) = true := by simp; omega
      clear hiff hpos hMn
      go_wp2_with fail
      refine HC.out.mono ?_
      rintro e w4 ⟨rfl, hb4⟩
      have HB4 := Lib.hid (bl_step HB0.out hb4)
      clear hb4
      go_wp2
      go_ret
      exact ⟨by first | rfl | simp, HB4.out⟩
end Go.Proofs.Ytheoepbcejlncaa
