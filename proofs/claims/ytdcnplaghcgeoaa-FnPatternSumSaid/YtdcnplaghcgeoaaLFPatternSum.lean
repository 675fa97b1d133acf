/- Free rings of four points are all but one: the law FnPatternSum. -/
import Derived.Test.YtdcnplaghcgeoaaDraw18
import Derived.Test.YtdcnplaghcgeoaaPnQ
namespace Go.Proofs.Ytdcnplaghcgeoaa
open Go.ChangeShapes Go.WideShapes Go.ChangeAt Go.RowKit

theorem cI_PatternSum {w : World} {A : Option Addr} {n c : Nat} {l : List Int} (h : Rw w A n c l) (q : Int) :
    Calls Try.prog 6 #[.int .i64 q, .slice A n c] w fun e w' => e = .returned (.tuple #[.int .i64 (psmR q l), .bool (psmB q l)]) ∧ Below w.heap.size w w' :=
  psI_any A n c w.heap.size q l w h.rd (Nat.le_refl _) h.big h.2.1 h.2.2.1
theorem cS_PatternSum {w : World} {A : Option Addr} {n c : Nat} {l : List Int} (h : Rw w A n c l) (q : Int) :
    Calls Try.prog 7 #[.int .i64 q, .slice A n c] w fun e w' => e = .returned (.tuple #[.int .i64 (psmR q l), .bool (psmB q l)]) ∧ Below w.heap.size w w' :=
  psS_any A n c w.heap.size q l w h.rd (Nat.le_refl _) h.big
theorem psm_next {x : Int} {l : List Int} (h : Psm x l) : (x = 3 ∧ psmR x l = 2 ∧ psmB (x - 1) l = false) ∨ (x = 4 ∧ psmR x l = 5 ∧ psmB (x - 1) l = true ∧ psmR (x - 1) l = 2) ∨ (5 ≤ x ∧ psmB (x - 1) l = true ∧ psmR (x - 1) l < psmR x l) := by
  have hk := num_four h.2.1 h.2.2
  have h3 := h.1
  rcases (show x = 3 ∨ 4 ≤ x by omega) with rfl | h4
  · refine .inl ⟨rfl, ?_, psmB_no fun hf => by have := hf.1; omega⟩
    rw [psmR, if_pos h]
    rcases hk with e | e | e | e | e | e <;> rw [e] <;> rfl
  · have h' : Psm (x - 1) l := ⟨by omega, h.2⟩
    have e1 : psmR x l = psQ x.toNat (numP l 4) := by rw [psmR, if_pos h]
    have e2 : psmR (x - 1) l = psQ (x - 1).toNat (numP l 4) := by rw [psmR, if_pos h']
    rw [e1, e2, psmB_yes h']
    generalize numP l 4 = K at *
    obtain rfl | rfl | rfl | rfl : x = 4 ∨ x = 5 ∨ x = 6 ∨ x = 7 := by omega
    · refine .inr (.inl ⟨rfl, ?_, rfl, ?_⟩)
      · rcases hk with rfl | rfl | rfl | rfl | rfl | rfl <;> rfl
      · rcases hk with rfl | rfl | rfl | rfl | rfl | rfl <;> rfl
    all_goals
      refine .inr (.inr ⟨by omega, rfl, ?_⟩)
      rcases hk with rfl | rfl | rfl | rfl | rfl | rfl <;> decide

set_option maxRecDepth 10000 in
set_option maxHeartbeats 4000000 in
theorem law_PatternSum (a0 : Option Addr) (len0 cap0 : Nat) (z0 : List Int) (w : World) (w0 : IsRow .u8 w a0 len0 cap0 z0) :
    Calls Try.prog 3 #[.slice a0 len0 cap0] w fun e w' => e = .returned (.bool true) ∧ Below w.heap.size w w' := by
  obtain ⟨h, hlc, hcm⟩ := byt_of_row w0
  have HD := Lib.hid (drawPatternSum_any len0 cap0 w.heap.size a0 w h (Nat.le_refl _) hlc hcm)
  clear w0 h
  by_cases hn : len0 ≤ 1048576
  rotate_left
  · go_enter Try.func3, Try.ntmps3
    go_wp2_with fail
    go_ret
    exact ⟨rfl, Below.refl _ _⟩
  go_enter Try.func3, Try.ntmps3
  go_wp2_with fail
  refine HD.out.mono ?_
  rintro e w1 ⟨x, l, v, rfl, ⟨A1, n1, c1, rfl, hr1⟩, hx, hb⟩
  have HB := Lib.hid hb
  have HR1 := Lib.hid hr1
  clear hb hr1 HD
  have HC := Lib.hid (cI_PatternSum HR1.out x)
  go_wp2_with fail
  refine HC.out.mono ?_
  rintro e w2 ⟨rfl, hb⟩
  replace HB := Lib.hid (bl_step HB.out hb)
  replace HR1 := Lib.hid (HR1.out.step hb)
  clear hb HC
  have HC := Lib.hid (cS_PatternSum HR1.out x)
  go_wp2_with fail
  refine HC.out.mono ?_
  rintro e w3 ⟨rfl, hb⟩
  replace HB := Lib.hid (bl_step HB.out hb)
  replace HR1 := Lib.hid (HR1.out.step hb)
  clear hb HC
  by_cases hk : Psm x l
  rotate_left
  · rw [psmR, if_neg hk, psmB_no hk]
    clear hk HR1
    go_wp2
    go_ret
    exact ⟨rfl, HB.out⟩
  have hw : IntKind.i64.wrap (x - 1) = x - 1 := by rw [IntKind.wrap_i64]; omega
  have HC := Lib.hid (cI_PatternSum HR1.out (x - 1))
  have hcase := psm_next hk
  rw [psmB_yes hk]
  clear hk HR1
  generalize psmR x l = o at *
  generalize psmR (x - 1) l = p at *
  generalize psmB (x - 1) l = u at *
  rcases hcase with ⟨rfl, rfl, rfl⟩ | ⟨rfl, rfl, rfl, rfl⟩ | ⟨h5, rfl, hlt⟩
  · go_wp2_with fail
    refine HC.out.mono ?_
    rintro e w4 ⟨rfl, hb⟩
    replace HB := Lib.hid (bl_step HB.out hb)
    clear hb HC
    go_wp2
    go_ret
    exact ⟨rfl, HB.out⟩
  · go_wp2_with fail
    refine HC.out.mono ?_
    rintro e w4 ⟨rfl, hb⟩
    replace HB := Lib.hid (bl_step HB.out hb)
    clear hb HC
    go_wp2
    go_ret
    exact ⟨rfl, HB.out⟩
  · have h1 : (o != o) = false := by simp
    have h2 : (x != 3) = true := by simp; omega
    have h3 : (x != 4) = true := by simp; omega
    have h4 : ¬ x = 3 := by omega
    have h6 : ¬ x = 4 := by omega
    go_wp2_with fail
    refine HC.out.mono ?_
    rintro e w4 ⟨rfl, hb⟩
    replace HB := Lib.hid (bl_step HB.out hb)
    clear hb HC
    go_wp2
    go_ret
    exact ⟨rfl, HB.out⟩
end Go.Proofs.Ytdcnplaghcgeoaa
