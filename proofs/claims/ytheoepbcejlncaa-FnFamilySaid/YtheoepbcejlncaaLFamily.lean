/- Families without a set, and of what sets leave, are families: the law FnFamily. -/
import Derived.Test.YtheoepbcejlncaaDraw16
import Derived.Test.YtheoepbcejlncaaDraw6
import Derived.Test.YtheoepbcejlncaaLaw7f
import Derived.Test.YtheoepbcejlncaaFold
namespace Go.Proofs.Ytheoepbcejlncaa
open Go.ChangeShapes Go.WideShapes Go.ChangeAt Go.RowKit

attribute [local go_sem ↓] apI_fold in
set_option maxRecDepth 10000 in
set_option maxHeartbeats 4000000 in
theorem law_Family (a0 : Option Addr) (len0 cap0 : Nat) (z0 : List Int) (w : World) (w0 : IsRow .u8 w a0 len0 cap0 z0) :
    Calls Try.prog 5 #[.slice a0 len0 cap0] w fun e w' => e = .returned (.bool true) ∧ Below w.heap.size w w' := by
  obtain ⟨h, hlc, hcm⟩ := byt_of_row w0
  have HD := Lib.hid (drawArcFamily_any len0 cap0 w.heap.size a0 w h (Nat.le_refl _) hlc hcm)
  clear w0 h
  by_cases hn : len0 ≤ 1048576
  rotate_left
  · go_enter Try.func5, Try.ntmps5
    go_wp2_with fail
    go_ret
    exact ⟨rfl, Below.refl _ _⟩
  go_enter Try.func5, Try.ntmps5
  go_wp2_with fail
  refine HD.out.mono ?_
  rintro e w1 ⟨v, L, x, rfl, ⟨A1, n1, c1, rfl, hr1⟩, hl, hb⟩
  have HB := Lib.hid hb
  have HR1 := Lib.hid hr1
  clear hb hr1 HD
  have HC := Lib.hid (cI_ArcFamily HR1.out x)
  go_wp2_with fail
  refine HC.out.mono ?_
  rintro e w2 ⟨rfl, hb⟩
  replace HB := Lib.hid (bl_step HB.out hb)
  replace HR1 := Lib.hid (HR1.out.step hb)
  clear hb HC
  have HC := Lib.hid (cS_ArcFamily HR1.out x)
  go_wp2_with fail
  refine HC.out.mono ?_
  rintro e w3 ⟨rfl, hb⟩
  replace HB := Lib.hid (bl_step HB.out hb)
  replace HR1 := Lib.hid (HR1.out.step hb)
  clear hb HC
  cases hf : famB x L with
  | false =>
    clear hf HR1
    go_wp2
    go_ret
    exact ⟨rfl, HB.out⟩
  | true =>
    obtain ⟨z, G, rfl, hzG, hs, hG7, hG63, hcomp, htail, h10⟩ := fam_told hf
    have HCP := Lib.hid hcomp
    have HTL := Lib.hid htail
    have HSB := Lib.hid hs
    have HLN := Lib.hid HR1.out.len
    have HLT := Lib.hid (fun (W : World) (hb : Below w3.heap.size w3 W) => HR1.out.step hb)
    have HST := Lib.hid (fun k (hk : k < L.length) => compL_snoc G L k hk)
    have HCF := Lib.hid (fun (W : World) (A : Option Addr) (n c : Nat) (M : List Int) (hM : famB (z : Int) M = true) (h : Rw W A n c M) => by
      have := cI_ArcFamily h (z : Int)
      rw [hM] at this
      exact this)
    have h7 := HR1.out.2.2.2
    have hc1 := HR1.out.2.1
    have hcm := HR1.out.2.2.1
    have HB0 := Lib.hid HB.out
    have ho0 := Lib.hid (own_empty w3 _ (Nat.le_refl _))
    have hb0 := Lib.hid ((Below.refl w3.heap.size w3).alloc (Nat.le_refl _) (.cells #[] 3))
    clear hf hcomp htail hs HR1 HB hl h10
    obtain ⟨rfl, rfl⟩ | ⟨rfl, rfl⟩ | ⟨rfl, rfl⟩ | ⟨rfl, rfl⟩ := hzG
    · go_wp2_with fail
      generalize w3.alloc (.cells #[] 3) = W0 at *
      go_loopw [7, 8] (fun v i wr => ∃ k : Nat, k ≤ n1 ∧ i = .int .i64 k ∧ Hid (Own wr w3.heap.size v (compL 7 (L.take k))) ∧ Hid (Below w3.heap.size w3 wr)) (fun _ i _ => n1 - (intOf i).toNat)
      case atStart => exact ⟨0, Nat.zero_le _, rfl, by simpa [compL, Hid] using ho0, hb0⟩
      case round =>
        obtain ⟨k, hk, rfl, hown, hbl⟩ := hrel
        clear ho0 hb0
        by_cases hlt : k < n1
        · have hrw : Rw wr.drew A1 n1 c1 L := ⟨(HLT.out wr hbl.out).1.drew, (HLT.out wr hbl.out).2⟩
          obtain ⟨b, o, rfl, hbH, hcs⟩ := hrw.at_ (by omega)
          have hc := hcs k hlt
          have hkl : k < L.length := by rw [HLN.out]; exact hlt
          have hsb := HSB.out _ (getD_mem L k hkl)
          have hst := HST.out k hkl
          clear hcs hrw
          generalize L.getD k 0 = y at *
          have hsub2 := IntWalk.i64_in _ (show -9223372036854775808 ≤ 7 - y ∧ 7 - y ≤ 9223372036854775807 from ⟨by omega, by omega⟩)
          have HOV : Hid (Own wr.drew w3.heap.size _ (compL 7 (L.take k))) := hown.out.drew
          have HBV := Lib.hid hbl.out.drew
          obtain ⟨v', w1', hrun, hown', hgrow⟩ := apI_run HOV.out HBV.out.size (by rw [compL, List.length_map, List.length_take]; omega) (7 - y)
          have hrun' : ∀ ty, (apI #[23, 23] ty #[_, .slice (some ⟨wr.heap.size, 0, none⟩) 1 1]).run Try.prog (wr.alloc (.cells #[.int .i64 (7 - y)] 3)).drew = .ok v' w1' := hrun
          clear hrun
          rw [hst] at hown'
          have HO := Lib.hid hown'
          have hb1 := Lib.hid (apI_below HOV.out hgrow (Nat.le_refl _) HBV.out HBV.out.size)
          clear hown' hgrow hown hbl HOV hst
          go_wp2_with fail
          go_region
          all_goals
            go_wp2
            go_roundw
            case rel => exact ⟨k + 1, by omega, by go_num, HO, hb1⟩
            case measure => simp [intOf]; omega
        · obtain rfl : k = n1 := by omega
          have hown' := hown.out
          rw [List.take_of_length_le (by rw [HLN.out]; omega)] at hown'
          obtain ⟨Ao, no, co, eo, hro⟩ := hown'.newR (by rw [compL, List.length_map, HLN.out]; exact h7)
          subst eo
          have HRO := Lib.hid hro
          have hrw := HLT.out wr hbl.out
          rcases Nat.eq_zero_or_pos k with h0 | h0
          · subst h0
            clear hown' hro hrw hown
            go_wp2_with fail
            refine (HCF.out _ _ _ _ _ HCP.out HRO.out).mono ?_
            rintro e w5 ⟨rfl, hb5⟩
            have HB5 := Lib.hid (bl_step HB0.out (bl_step hbl.out hb5))
            clear hb5
            go_wp2
            go_ret
            exact ⟨rfl, HB5.out⟩
          · obtain ⟨b, o, e, hbH, hcs⟩ := hrw.at_ h0
            subst e
            have HRT := Lib.hid (hrw.tail h0)
            have hne : ((k : Int) == 0) = false := by simp; omega
            clear hown' hro hrw hown hcs
            go_wp2_with fail
            refine (HCF.out _ _ _ _ _ HCP.out HRO.out).mono ?_
            rintro e w5 ⟨rfl, hb5⟩
            have HB5 := Lib.hid (bl_step hbl.out hb5)
            have HRT5 := Lib.hid (HRT.out.step hb5)
            clear hb5
            by_cases hc11 : c1 = 1
            · subst hc11
              obtain rfl : k = 1 := by omega
              have hdl : L.drop 1 = [] := List.drop_eq_nil_of_le (by rw [HLN.out]; omega)
              rw [hdl] at HTL
              clear HRT HRT5
              go_wp2_with fail
              have HX := HCF.out _ _ _ _ _ HTL.out (Rw.none0 w5 (some ⟨b, o, none⟩))
              rw [show ((3 : Nat) : Int) = 3 from rfl] at HX
              clear HCF HCP HTL HLT HST HSB
              refine HX.mono ?_
              rintro e w6 ⟨rfl, hb6⟩
              have HB6 := Lib.hid (bl_step HB0.out (bl_step HB5.out hb6))
              clear hb6
              go_wp2
              go_ret
              exact ⟨rfl, HB6.out⟩
            · go_wp2_with fail
              have HX := HCF.out _ _ _ _ _ HTL.out HRT5.out
              rw [show ((3 : Nat) : Int) = 3 from rfl] at HX
              clear HCF HCP HTL HLT HST HSB
              refine HX.mono ?_
              rintro e w6 ⟨rfl, hb6⟩
              have HB6 := Lib.hid (bl_step HB0.out (bl_step HB5.out hb6))
              clear hb6
              go_wp2
              go_ret
              exact ⟨rfl, HB6.out⟩
    · go_wp2_with fail
      generalize w3.alloc (.cells #[] 3) = W0 at *
      go_loopw [7, 8] (fun v i wr => ∃ k : Nat, k ≤ n1 ∧ i = .int .i64 k ∧ Hid (Own wr w3.heap.size v (compL 15 (L.take k))) ∧ Hid (Below w3.heap.size w3 wr)) (fun _ i _ => n1 - (intOf i).toNat)
      case atStart => exact ⟨0, Nat.zero_le _, rfl, by simpa [compL, Hid] using ho0, hb0⟩
      case round =>
        obtain ⟨k, hk, rfl, hown, hbl⟩ := hrel
        clear ho0 hb0
        by_cases hlt : k < n1
        · have hrw : Rw wr.drew A1 n1 c1 L := ⟨(HLT.out wr hbl.out).1.drew, (HLT.out wr hbl.out).2⟩
          obtain ⟨b, o, rfl, hbH, hcs⟩ := hrw.at_ (by omega)
          have hc := hcs k hlt
          have hkl : k < L.length := by rw [HLN.out]; exact hlt
          have hsb := HSB.out _ (getD_mem L k hkl)
          have hst := HST.out k hkl
          clear hcs hrw
          generalize L.getD k 0 = y at *
          have hsub2 := IntWalk.i64_in _ (show -9223372036854775808 ≤ 15 - y ∧ 15 - y ≤ 9223372036854775807 from ⟨by omega, by omega⟩)
          have HOV : Hid (Own wr.drew w3.heap.size _ (compL 15 (L.take k))) := hown.out.drew
          have HBV := Lib.hid hbl.out.drew
          obtain ⟨v', w1', hrun, hown', hgrow⟩ := apI_run HOV.out HBV.out.size (by rw [compL, List.length_map, List.length_take]; omega) (15 - y)
          have hrun' : ∀ ty, (apI #[23, 23] ty #[_, .slice (some ⟨wr.heap.size, 0, none⟩) 1 1]).run Try.prog (wr.alloc (.cells #[.int .i64 (15 - y)] 3)).drew = .ok v' w1' := hrun
          clear hrun
          rw [hst] at hown'
          have HO := Lib.hid hown'
          have hb1 := Lib.hid (apI_below HOV.out hgrow (Nat.le_refl _) HBV.out HBV.out.size)
          clear hown' hgrow hown hbl HOV hst
          go_wp2_with fail
          go_region
          all_goals
            go_wp2
            go_roundw
            case rel => exact ⟨k + 1, by omega, by go_num, HO, hb1⟩
            case measure => simp [intOf]; omega
        · obtain rfl : k = n1 := by omega
          have hown' := hown.out
          rw [List.take_of_length_le (by rw [HLN.out]; omega)] at hown'
          obtain ⟨Ao, no, co, eo, hro⟩ := hown'.newR (by rw [compL, List.length_map, HLN.out]; exact h7)
          subst eo
          have HRO := Lib.hid hro
          have hrw := HLT.out wr hbl.out
          rcases Nat.eq_zero_or_pos k with h0 | h0
          · subst h0
            clear hown' hro hrw hown
            go_wp2_with fail
            refine (HCF.out _ _ _ _ _ HCP.out HRO.out).mono ?_
            rintro e w5 ⟨rfl, hb5⟩
            have HB5 := Lib.hid (bl_step HB0.out (bl_step hbl.out hb5))
            clear hb5
            go_wp2
            go_ret
            exact ⟨rfl, HB5.out⟩
          · obtain ⟨b, o, e, hbH, hcs⟩ := hrw.at_ h0
            subst e
            have HRT := Lib.hid (hrw.tail h0)
            have hne : ((k : Int) == 0) = false := by simp; omega
            clear hown' hro hrw hown hcs
            go_wp2_with fail
            refine (HCF.out _ _ _ _ _ HCP.out HRO.out).mono ?_
            rintro e w5 ⟨rfl, hb5⟩
            have HB5 := Lib.hid (bl_step hbl.out hb5)
            have HRT5 := Lib.hid (HRT.out.step hb5)
            clear hb5
            by_cases hc11 : c1 = 1
            · subst hc11
              obtain rfl : k = 1 := by omega
              have hdl : L.drop 1 = [] := List.drop_eq_nil_of_le (by rw [HLN.out]; omega)
              rw [hdl] at HTL
              clear HRT HRT5
              go_wp2_with fail
              have HX := HCF.out _ _ _ _ _ HTL.out (Rw.none0 w5 (some ⟨b, o, none⟩))
              rw [show ((4 : Nat) : Int) = 4 from rfl] at HX
              clear HCF HCP HTL HLT HST HSB
              refine HX.mono ?_
              rintro e w6 ⟨rfl, hb6⟩
              have HB6 := Lib.hid (bl_step HB0.out (bl_step HB5.out hb6))
              clear hb6
              go_wp2
              go_ret
              exact ⟨rfl, HB6.out⟩
            · go_wp2_with fail
              have HX := HCF.out _ _ _ _ _ HTL.out HRT5.out
              rw [show ((4 : Nat) : Int) = 4 from rfl] at HX
              clear HCF HCP HTL HLT HST HSB
              refine HX.mono ?_
              rintro e w6 ⟨rfl, hb6⟩
              have HB6 := Lib.hid (bl_step HB0.out (bl_step HB5.out hb6))
              clear hb6
              go_wp2
              go_ret
              exact ⟨rfl, HB6.out⟩
    · go_wp2_with fail
      generalize w3.alloc (.cells #[] 3) = W0 at *
      go_loopw [7, 8] (fun v i wr => ∃ k : Nat, k ≤ n1 ∧ i = .int .i64 k ∧ Hid (Own wr w3.heap.size v (compL 31 (L.take k))) ∧ Hid (Below w3.heap.size w3 wr)) (fun _ i _ => n1 - (intOf i).toNat)
      case atStart => exact ⟨0, Nat.zero_le _, rfl, by simpa [compL, Hid] using ho0, hb0⟩
      case round =>
        obtain ⟨k, hk, rfl, hown, hbl⟩ := hrel
        clear ho0 hb0
        by_cases hlt : k < n1
        · have hrw : Rw wr.drew A1 n1 c1 L := ⟨(HLT.out wr hbl.out).1.drew, (HLT.out wr hbl.out).2⟩
          obtain ⟨b, o, rfl, hbH, hcs⟩ := hrw.at_ (by omega)
          have hc := hcs k hlt
          have hkl : k < L.length := by rw [HLN.out]; exact hlt
          have hsb := HSB.out _ (getD_mem L k hkl)
          have hst := HST.out k hkl
          clear hcs hrw
          generalize L.getD k 0 = y at *
          have hsub2 := IntWalk.i64_in _ (show -9223372036854775808 ≤ 31 - y ∧ 31 - y ≤ 9223372036854775807 from ⟨by omega, by omega⟩)
          have HOV : Hid (Own wr.drew w3.heap.size _ (compL 31 (L.take k))) := hown.out.drew
          have HBV := Lib.hid hbl.out.drew
          obtain ⟨v', w1', hrun, hown', hgrow⟩ := apI_run HOV.out HBV.out.size (by rw [compL, List.length_map, List.length_take]; omega) (31 - y)
          have hrun' : ∀ ty, (apI #[23, 23] ty #[_, .slice (some ⟨wr.heap.size, 0, none⟩) 1 1]).run Try.prog (wr.alloc (.cells #[.int .i64 (31 - y)] 3)).drew = .ok v' w1' := hrun
          clear hrun
          rw [hst] at hown'
          have HO := Lib.hid hown'
          have hb1 := Lib.hid (apI_below HOV.out hgrow (Nat.le_refl _) HBV.out HBV.out.size)
          clear hown' hgrow hown hbl HOV hst
          go_wp2_with fail
          go_region
          all_goals
            go_wp2
            go_roundw
            case rel => exact ⟨k + 1, by omega, by go_num, HO, hb1⟩
            case measure => simp [intOf]; omega
        · obtain rfl : k = n1 := by omega
          have hown' := hown.out
          rw [List.take_of_length_le (by rw [HLN.out]; omega)] at hown'
          obtain ⟨Ao, no, co, eo, hro⟩ := hown'.newR (by rw [compL, List.length_map, HLN.out]; exact h7)
          subst eo
          have HRO := Lib.hid hro
          have hrw := HLT.out wr hbl.out
          rcases Nat.eq_zero_or_pos k with h0 | h0
          · subst h0
            clear hown' hro hrw hown
            go_wp2_with fail
            refine (HCF.out _ _ _ _ _ HCP.out HRO.out).mono ?_
            rintro e w5 ⟨rfl, hb5⟩
            have HB5 := Lib.hid (bl_step HB0.out (bl_step hbl.out hb5))
            clear hb5
            go_wp2
            go_ret
            exact ⟨rfl, HB5.out⟩
          · obtain ⟨b, o, e, hbH, hcs⟩ := hrw.at_ h0
            subst e
            have HRT := Lib.hid (hrw.tail h0)
            have hne : ((k : Int) == 0) = false := by simp; omega
            clear hown' hro hrw hown hcs
            go_wp2_with fail
            refine (HCF.out _ _ _ _ _ HCP.out HRO.out).mono ?_
            rintro e w5 ⟨rfl, hb5⟩
            have HB5 := Lib.hid (bl_step hbl.out hb5)
            have HRT5 := Lib.hid (HRT.out.step hb5)
            clear hb5
            by_cases hc11 : c1 = 1
            · subst hc11
              obtain rfl : k = 1 := by omega
              have hdl : L.drop 1 = [] := List.drop_eq_nil_of_le (by rw [HLN.out]; omega)
              rw [hdl] at HTL
              clear HRT HRT5
              go_wp2_with fail
              have HX := HCF.out _ _ _ _ _ HTL.out (Rw.none0 w5 (some ⟨b, o, none⟩))
              rw [show ((5 : Nat) : Int) = 5 from rfl] at HX
              clear HCF HCP HTL HLT HST HSB
              refine HX.mono ?_
              rintro e w6 ⟨rfl, hb6⟩
              have HB6 := Lib.hid (bl_step HB0.out (bl_step HB5.out hb6))
              clear hb6
              go_wp2
              go_ret
              exact ⟨rfl, HB6.out⟩
            · go_wp2_with fail
              have HX := HCF.out _ _ _ _ _ HTL.out HRT5.out
              rw [show ((5 : Nat) : Int) = 5 from rfl] at HX
              clear HCF HCP HTL HLT HST HSB
              refine HX.mono ?_
              rintro e w6 ⟨rfl, hb6⟩
              have HB6 := Lib.hid (bl_step HB0.out (bl_step HB5.out hb6))
              clear hb6
              go_wp2
              go_ret
              exact ⟨rfl, HB6.out⟩
    · go_wp2_with fail
      generalize w3.alloc (.cells #[] 3) = W0 at *
      go_loopw [7, 8] (fun v i wr => ∃ k : Nat, k ≤ n1 ∧ i = .int .i64 k ∧ Hid (Own wr w3.heap.size v (compL 63 (L.take k))) ∧ Hid (Below w3.heap.size w3 wr)) (fun _ i _ => n1 - (intOf i).toNat)
      case atStart => exact ⟨0, Nat.zero_le _, rfl, by simpa [compL, Hid] using ho0, hb0⟩
      case round =>
        obtain ⟨k, hk, rfl, hown, hbl⟩ := hrel
        clear ho0 hb0
        by_cases hlt : k < n1
        · have hrw : Rw wr.drew A1 n1 c1 L := ⟨(HLT.out wr hbl.out).1.drew, (HLT.out wr hbl.out).2⟩
          obtain ⟨b, o, rfl, hbH, hcs⟩ := hrw.at_ (by omega)
          have hc := hcs k hlt
          have hkl : k < L.length := by rw [HLN.out]; exact hlt
          have hsb := HSB.out _ (getD_mem L k hkl)
          have hst := HST.out k hkl
          clear hcs hrw
          generalize L.getD k 0 = y at *
          have hsub2 := IntWalk.i64_in _ (show -9223372036854775808 ≤ 63 - y ∧ 63 - y ≤ 9223372036854775807 from ⟨by omega, by omega⟩)
          have HOV : Hid (Own wr.drew w3.heap.size _ (compL 63 (L.take k))) := hown.out.drew
          have HBV := Lib.hid hbl.out.drew
          obtain ⟨v', w1', hrun, hown', hgrow⟩ := apI_run HOV.out HBV.out.size (by rw [compL, List.length_map, List.length_take]; omega) (63 - y)
          have hrun' : ∀ ty, (apI #[23, 23] ty #[_, .slice (some ⟨wr.heap.size, 0, none⟩) 1 1]).run Try.prog (wr.alloc (.cells #[.int .i64 (63 - y)] 3)).drew = .ok v' w1' := hrun
          clear hrun
          rw [hst] at hown'
          have HO := Lib.hid hown'
          have hb1 := Lib.hid (apI_below HOV.out hgrow (Nat.le_refl _) HBV.out HBV.out.size)
          clear hown' hgrow hown hbl HOV hst
          go_wp2_with fail
          go_region
          all_goals
            go_wp2
            go_roundw
            case rel => exact ⟨k + 1, by omega, by go_num, HO, hb1⟩
            case measure => simp [intOf]; omega
        · obtain rfl : k = n1 := by omega
          have hown' := hown.out
          rw [List.take_of_length_le (by rw [HLN.out]; omega)] at hown'
          obtain ⟨Ao, no, co, eo, hro⟩ := hown'.newR (by rw [compL, List.length_map, HLN.out]; exact h7)
          subst eo
          have HRO := Lib.hid hro
          have hrw := HLT.out wr hbl.out
          rcases Nat.eq_zero_or_pos k with h0 | h0
          · subst h0
            clear hown' hro hrw hown
            go_wp2_with fail
            refine (HCF.out _ _ _ _ _ HCP.out HRO.out).mono ?_
            rintro e w5 ⟨rfl, hb5⟩
            have HB5 := Lib.hid (bl_step HB0.out (bl_step hbl.out hb5))
            clear hb5
            go_wp2
            go_ret
            exact ⟨rfl, HB5.out⟩
          · obtain ⟨b, o, e, hbH, hcs⟩ := hrw.at_ h0
            subst e
            have HRT := Lib.hid (hrw.tail h0)
            have hne : ((k : Int) == 0) = false := by simp; omega
            clear hown' hro hrw hown hcs
            go_wp2_with fail
            refine (HCF.out _ _ _ _ _ HCP.out HRO.out).mono ?_
            rintro e w5 ⟨rfl, hb5⟩
            have HB5 := Lib.hid (bl_step hbl.out hb5)
            have HRT5 := Lib.hid (HRT.out.step hb5)
            clear hb5
            by_cases hc11 : c1 = 1
            · subst hc11
              obtain rfl : k = 1 := by omega
              have hdl : L.drop 1 = [] := List.drop_eq_nil_of_le (by rw [HLN.out]; omega)
              rw [hdl] at HTL
              clear HRT HRT5
              go_wp2_with fail
              have HX := HCF.out _ _ _ _ _ HTL.out (Rw.none0 w5 (some ⟨b, o, none⟩))
              rw [show ((6 : Nat) : Int) = 6 from rfl] at HX
              clear HCF HCP HTL HLT HST HSB
              refine HX.mono ?_
              rintro e w6 ⟨rfl, hb6⟩
              have HB6 := Lib.hid (bl_step HB0.out (bl_step HB5.out hb6))
              clear hb6
              go_wp2
              go_ret
              exact ⟨rfl, HB6.out⟩
            · go_wp2_with fail
              have HX := HCF.out _ _ _ _ _ HTL.out HRT5.out
              rw [show ((6 : Nat) : Int) = 6 from rfl] at HX
              clear HCF HCP HTL HLT HST HSB
              refine HX.mono ?_
              rintro e w6 ⟨rfl, hb6⟩
              have HB6 := Lib.hid (bl_step HB0.out (bl_step HB5.out hb6))
              clear hb6
              go_wp2
              go_ret
              exact ⟨rfl, HB6.out⟩
end Go.Proofs.Ytheoepbcejlncaa
