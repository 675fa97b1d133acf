/- Schemes without a parting are schemes: the law FnScheme. -/
import Derived.Test.YtamnacgclhaggaaDraw37
import Derived.Test.YtamnacgclhaggaaLawS
namespace Go.Proofs.Ytamnacgclhaggaa
open Go.ChangeShapes Go.WideShapes Go.ChangeAt Go.RowKit

set_option maxRecDepth 10000 in
set_option maxHeartbeats 4000000 in
theorem law_Scheme (a0 : Option Addr) (len0 cap0 : Nat) (z0 : List Int) (w : World) (w0 : IsRow .u8 w a0 len0 cap0 z0) :
    Calls Try.prog 6 #[.slice a0 len0 cap0] w fun e w' => e = .returned (.bool true) ∧ Below w.heap.size w w' := by
  obtain ⟨h, hlc, hcm⟩ := byt_of_row w0
  have HD := Lib.hid (drawPairScheme_any len0 cap0 w.heap.size a0 w h (Nat.le_refl _) hlc hcm)
  clear w0 h
  by_cases hn : len0 ≤ 1048576
  rotate_left
  · go_enter Try.func6, Try.ntmps6
    go_wp2_with fail
    go_ret
    exact ⟨rfl, Below.refl _ _⟩
  go_enter Try.func6, Try.ntmps6
  go_wp2_with fail
  refine HD.out.mono ?_
  rintro e w1 ⟨m, A1, n1, c1, L, rfl, hr1, ⟨hnc1, hcm1, hn8, hm3, hm10⟩, hb⟩
  have HB := Lib.hid hb
  have HR1 := Lib.hid hr1
  clear hb hr1 HD
  have HC := Lib.hid (cI_PairScheme HR1.out (m : Int))
  go_wp2_with fail
  refine HC.out.mono ?_
  rintro e w2 ⟨rfl, hb⟩
  replace HB := Lib.hid (bl_step HB.out hb)
  replace HR1 := Lib.hid (HR1.out.step hb)
  clear hb HC
  have HC := Lib.hid (cS_PairScheme HR1.out (m : Int))
  go_wp2_with fail
  refine HC.out.mono ?_
  rintro e w3 ⟨rfl, hb⟩
  replace HB := Lib.hid (bl_step HB.out hb)
  replace HR1 := Lib.hid (HR1.out.step hb)
  clear hb HC
  by_cases hk : schB (m : Int) L = true
  rotate_left
  · have hk0 : schB (m : Int) L = false := by simpa using hk
    rw [hk0]
    clear hk hk0
    go_wp2
    go_ret
    exact ⟨rfl, HB.out⟩
  have E3 := Lib.hid (sch_tail hk)
  have HLN := Lib.hid HR1.out.len
  rw [hk]
  clear hk
  obtain rfl | hn0 := Nat.eq_zero_or_pos n1
  · clear E3 HR1
    go_wp2
    go_ret
    exact ⟨rfl, HB.out⟩
  have hne : ((n1 : Int) == 0) = false := by simp; omega
  obtain ⟨b, o, e, hbH, hcs⟩ := HR1.out.rd.at_ hn0
  subst e
  clear hcs
  by_cases hc11 : c1 = 1
  · subst hc11
    obtain rfl : n1 = 1 := by omega
    have hdl : L.tail = [] := by rw [← List.drop_one]; exact List.drop_eq_nil_of_le (by rw [HLN.out]; omega)
    rw [hdl] at E3
    clear HR1
    go_wp2_with fail
    have HX := cI_PairScheme (RwS.none0 w3 (some ⟨b, o, none⟩)) (m : Int)
    rw [E3.out] at HX
    clear E3
    refine HX.mono ?_
    rintro e w6 ⟨rfl, hb6⟩
    have HB6 := Lib.hid (bl_step HB.out hb6)
    clear hb6
    go_wp2
    go_ret
    exact ⟨rfl, HB6.out⟩
  · have HRT := Lib.hid (HR1.out.tail hn0)
    rw [List.drop_one] at HRT
    clear HR1
    go_wp2_with fail
    have HX := cI_PairScheme HRT.out (m : Int)
    rw [E3.out] at HX
    clear E3
    refine HX.mono ?_
    rintro e w6 ⟨rfl, hb6⟩
    have HB6 := Lib.hid (bl_step HB.out hb6)
    clear hb6
    go_wp2
    go_ret
    exact ⟨rfl, HB6.out⟩
end Go.Proofs.Ytamnacgclhaggaa
