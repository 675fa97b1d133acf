/- Rings of arcs are there both ways round: the law FnArcRings. -/
import Derived.Test.YtheoepbcejlncaaDraw16
import Derived.Test.YtheoepbcejlncaaMArcV
namespace Go.Proofs.Ytheoepbcejlncaa
open Go.ChangeShapes Go.WideShapes Go.ChangeAt Go.RowKit

attribute [local go_sem ↓] apI_fold in
set_option maxRecDepth 10000 in
set_option maxHeartbeats 4000000 in
theorem law_ArcRings (a0 : Option Addr) (len0 cap0 : Nat) (z0 : List Int) (w : World) (w0 : IsRow .u8 w a0 len0 cap0 z0) :
    Calls Try.prog 6 #[.slice a0 len0 cap0] w fun e w' => e = .returned (.bool true) ∧ Below w.heap.size w w' := by
  obtain ⟨h, hlc, hcm⟩ := byt_of_rowF w0
  have HD := Lib.hid (drawArcRings_any len0 cap0 w.heap.size a0 w h (Nat.le_refl _) hlc hcm)
  clear w0 h
  by_cases hn : len0 ≤ 1048576
  rotate_left
  · go_enter Try.func6, Try.ntmps6
    go_wp2_with fail
    go_ret
    exact ⟨rfl, Below.refl _ _⟩
  go_enter Try.func6, Try.ntmps6
  go_wp2_with fail
  refine HD.out.mono ?_
  rintro e w1 ⟨v, L, x, rfl, ⟨A1, n1, c1, rfl, hr1⟩, hl, hb⟩
  have HB := Lib.hid hb
  have HR1 := Lib.hid hr1
  clear hb hr1 HD
  have HC := Lib.hid (cI_ArcRingsV HR1.out x)
  go_wp2_with fail
  refine HC.out.mono ?_
  rintro e w2 ⟨rfl, hb⟩
  replace HB := Lib.hid (bl_step HB.out hb)
  replace HR1 := Lib.hid (HR1.out.step hb)
  clear hb HC
  have HC := Lib.hid (cS_ArcRingsV HR1.out x)
  go_wp2_with fail
  refine HC.out.mono ?_
  rintro e w3 ⟨rfl, hb⟩
  replace HB := Lib.hid (bl_step HB.out hb)
  replace HR1 := Lib.hid (HR1.out.step hb)
  clear hb HC
  cases hf : famB x L with
  | false =>
    generalize arR x L = F
    have h1 : (F != F) = false := by simp
    have h3 : (F == F) = true := by simp
    clear hf HR1
    go_wp2
    go_ret
    exact ⟨rfl, HB.out⟩
  | true =>
    obtain ⟨z, G, r, rfl, hzG, hs, hG7, hG63, hcomp, e1, e2, heven, hfirst, hr720⟩ := rings_told hf
    rw [e1]
    have HSB := Lib.hid hs
    have HLN := Lib.hid HR1.out.len
    have HLT := Lib.hid (fun (W : World) (hb : Below w3.heap.size w3 W) => HR1.out.step hb)
    have HST := Lib.hid (fun k (hk : k < L.length) => compL_snoc G L k hk)
    have HCR := Lib.hid (fun (W : World) (A : Option Addr) (n c : Nat) (h : Rw W A n c (compL G L)) => by
      have := cI_ArcRingsV h (z : Int)
      rw [e2, hcomp] at this
      exact this)
    have HCF := Lib.hid (fun (W : World) (hb : Below w3.heap.size w3 W) => by
      have := cI_ArcFirstV (HR1.out.step hb) (z : Int)
      rw [hfirst] at this
      exact this)
    generalize afR (z : Int) L = FR at *
    have h7 := HR1.out.2.2.2
    have HB0 := Lib.hid HB.out
    have ho0 := Lib.hid (own_empty w3 _ (Nat.le_refl _))
    have hb0 := Lib.hid ((Below.refl w3.heap.size w3).alloc (Nat.le_refl _) (.cells #[] 3))
    have hne : ((r : Int) != (r : Int)) = false := by simp
    have hee : ((r : Int) == (r : Int)) = true := by simp
    have htm : Int.tmod (r : Int) 2 = 0 := by rw [Int.tmod_eq_emod_of_nonneg (by omega)]; omega
    have hgt : decide (0 < (r : Int)) = decide (0 < r) := by rw [decide_eq_decide]; omega
    obtain ⟨d, hd⟩ : ∃ d, d = decide (0 < r) := ⟨_, rfl⟩
    rw [← hd] at HCF hgt
    have hdd : (d == d) = true := by simp
    have HDD : Hid (decide (0 < r) = d) := hd.symm
    clear hf hcomp hs HR1 HB hl e1 e2 hfirst heven hd
    obtain ⟨rfl, rfl⟩ | ⟨rfl, rfl⟩ | ⟨rfl, rfl⟩ | ⟨rfl, rfl⟩ := hzG
    · go_wp2_with fail
      generalize w3.alloc (.cells #[] 3) = W0 at *
      go_loopw [9, 10] (fun v i wr => ∃ k : Nat, k ≤ n1 ∧ i = .int .i64 k ∧ Hid (Own wr w3.heap.size v (compL 7 (L.take k))) ∧ Hid (Below w3.heap.size w3 wr)) (fun _ i _ => n1 - (intOf i).toNat)
      case atStart => exact ⟨0, Nat.zero_le _, rfl, by simpa [compL, Hid] using ho0, hb0⟩
      case round =>
        obtain ⟨k, hk, rfl, hown, hbl⟩ := hrel
        clear ho0 hb0
        by_cases hlt : k < n1
        · have hrw : Rw wr.drew A1 n1 c1 L := ⟨(HLT.out wr hbl.out).1.drew, (HLT.out wr hbl.out).2⟩
          obtain ⟨b, o, rfl, hbH, hcs⟩ := hrw.at_ (by omega)
          have hc := hcs k hlt
          have hkl : k < L.length := by rw [HLN.out]; exact hlt
          have hsb := HSB.out _ (getD_mem L k hkl)
          have hst := HST.out k hkl
          clear hcs hrw
          generalize L.getD k 0 = y at *
          have hsub2 := IntWalk.i64_in _ (show -9223372036854775808 ≤ 7 - y ∧ 7 - y ≤ 9223372036854775807 from ⟨by omega, by omega⟩)
          have HOV : Hid (Own wr.drew w3.heap.size _ (compL 7 (L.take k))) := hown.out.drew
          have HBV := Lib.hid hbl.out.drew
          obtain ⟨v', w1', hrun, hown', hgrow⟩ := apI_run HOV.out HBV.out.size (by rw [compL, List.length_map, List.length_take]; omega) (7 - y)
          have hrun' : ∀ ty, (apI #[23, 23] ty #[_, .slice (some ⟨wr.heap.size, 0, none⟩) 1 1]).run Try.prog (wr.alloc (.cells #[.int .i64 (7 - y)] 3)).drew = .ok v' w1' := hrun
          clear hrun
          rw [hst] at hown'
          have HO := Lib.hid hown'
          have hb1 := Lib.hid (apI_below HOV.out hgrow (Nat.le_refl _) HBV.out HBV.out.size)
          clear hown' hgrow hown hbl HOV hst
          go_wp2_with fail
          go_region
          all_goals
            go_wp2
            go_roundw
            case rel => exact ⟨k + 1, by omega, by go_num, HO, hb1⟩
            case measure => simp [intOf]; omega
        · obtain rfl : k = n1 := by omega
          have hown' := hown.out
          rw [List.take_of_length_le (by rw [HLN.out]; omega)] at hown'
          obtain ⟨Ao, no, co, eo, hro⟩ := hown'.newR (by rw [compL, List.length_map, HLN.out]; exact h7)
          subst eo
          have HX := HCR.out _ _ _ _ hro
          rw [show ((3 : Nat) : Int) = 3 from rfl] at HX HCF
          have HX2 := Lib.hid HX
          clear hown' hown hro HCR HLT HST HSB HX
          go_wp2_with fail
          refine HX2.out.mono ?_
          rintro e w5 ⟨rfl, hb5⟩
          have HB5 := Lib.hid (bl_step hbl.out hb5)
          have HC6 := Lib.hid (HCF.out _ HB5.out)
          clear hb5
          go_wp2_with fail
          refine HC6.out.mono ?_
          rintro e w6 ⟨v6, rfl, ⟨A6, n6, c6, rfl, _⟩, hb6⟩
          have HB6 := Lib.hid (bl_step HB0.out (bl_step HB5.out hb6))
          clear hb6
          go_wp2
          go_ret
          exact ⟨by first | rfl | (simp; exact HDD.out), HB6.out⟩
    · go_wp2_with fail
      generalize w3.alloc (.cells #[] 3) = W0 at *
      go_loopw [9, 10] (fun v i wr => ∃ k : Nat, k ≤ n1 ∧ i = .int .i64 k ∧ Hid (Own wr w3.heap.size v (compL 15 (L.take k))) ∧ Hid (Below w3.heap.size w3 wr)) (fun _ i _ => n1 - (intOf i).toNat)
      case atStart => exact ⟨0, Nat.zero_le _, rfl, by simpa [compL, Hid] using ho0, hb0⟩
      case round =>
        obtain ⟨k, hk, rfl, hown, hbl⟩ := hrel
        clear ho0 hb0
        by_cases hlt : k < n1
        · have hrw : Rw wr.drew A1 n1 c1 L := ⟨(HLT.out wr hbl.out).1.drew, (HLT.out wr hbl.out).2⟩
          obtain ⟨b, o, rfl, hbH, hcs⟩ := hrw.at_ (by omega)
          have hc := hcs k hlt
          have hkl : k < L.length := by rw [HLN.out]; exact hlt
          have hsb := HSB.out _ (getD_mem L k hkl)
          have hst := HST.out k hkl
          clear hcs hrw
          generalize L.getD k 0 = y at *
          have hsub2 := IntWalk.i64_in _ (show -9223372036854775808 ≤ 15 - y ∧ 15 - y ≤ 9223372036854775807 from ⟨by omega, by omega⟩)
          have HOV : Hid (Own wr.drew w3.heap.size _ (compL 15 (L.take k))) := hown.out.drew
          have HBV := Lib.hid hbl.out.drew
          obtain ⟨v', w1', hrun, hown', hgrow⟩ := apI_run HOV.out HBV.out.size (by rw [compL, List.length_map, List.length_take]; omega) (15 - y)
          have hrun' : ∀ ty, (apI #[23, 23] ty #[_, .slice (some ⟨wr.heap.size, 0, none⟩) 1 1]).run Try.prog (wr.alloc (.cells #[.int .i64 (15 - y)] 3)).drew = .ok v' w1' := hrun
          clear hrun
          rw [hst] at hown'
          have HO := Lib.hid hown'
          have hb1 := Lib.hid (apI_below HOV.out hgrow (Nat.le_refl _) HBV.out HBV.out.size)
          clear hown' hgrow hown hbl HOV hst
          go_wp2_with fail
          go_region
          all_goals
            go_wp2
            go_roundw
            case rel => exact ⟨k + 1, by omega, by go_num, HO, hb1⟩
            case measure => simp [intOf]; omega
        · obtain rfl : k = n1 := by omega
          have hown' := hown.out
          rw [List.take_of_length_le (by rw [HLN.out]; omega)] at hown'
          obtain ⟨Ao, no, co, eo, hro⟩ := hown'.newR (by rw [compL, List.length_map, HLN.out]; exact h7)
          subst eo
          have HX := HCR.out _ _ _ _ hro
          rw [show ((4 : Nat) : Int) = 4 from rfl] at HX HCF
          have HX2 := Lib.hid HX
          clear hown' hown hro HCR HLT HST HSB HX
          go_wp2_with fail
          refine HX2.out.mono ?_
          rintro e w5 ⟨rfl, hb5⟩
          have HB5 := Lib.hid (bl_step hbl.out hb5)
          have HC6 := Lib.hid (HCF.out _ HB5.out)
          clear hb5
          go_wp2_with fail
          refine HC6.out.mono ?_
          rintro e w6 ⟨v6, rfl, ⟨A6, n6, c6, rfl, _⟩, hb6⟩
          have HB6 := Lib.hid (bl_step HB0.out (bl_step HB5.out hb6))
          clear hb6
          go_wp2
          go_ret
          exact ⟨by first | rfl | (simp; exact HDD.out), HB6.out⟩
    · go_wp2_with fail
      generalize w3.alloc (.cells #[] 3) = W0 at *
      go_loopw [9, 10] (fun v i wr => ∃ k : Nat, k ≤ n1 ∧ i = .int .i64 k ∧ Hid (Own wr w3.heap.size v (compL 31 (L.take k))) ∧ Hid (Below w3.heap.size w3 wr)) (fun _ i _ => n1 - (intOf i).toNat)
      case atStart => exact ⟨0, Nat.zero_le _, rfl, by simpa [compL, Hid] using ho0, hb0⟩
      case round =>
        obtain ⟨k, hk, rfl, hown, hbl⟩ := hrel
        clear ho0 hb0
        by_cases hlt : k < n1
        · have hrw : Rw wr.drew A1 n1 c1 L := ⟨(HLT.out wr hbl.out).1.drew, (HLT.out wr hbl.out).2⟩
          obtain ⟨b, o, rfl, hbH, hcs⟩ := hrw.at_ (by omega)
          have hc := hcs k hlt
          have hkl : k < L.length := by rw [HLN.out]; exact hlt
          have hsb := HSB.out _ (getD_mem L k hkl)
          have hst := HST.out k hkl
          clear hcs hrw
          generalize L.getD k 0 = y at *
          have hsub2 := IntWalk.i64_in _ (show -9223372036854775808 ≤ 31 - y ∧ 31 - y ≤ 9223372036854775807 from ⟨by omega, by omega⟩)
          have HOV : Hid (Own wr.drew w3.heap.size _ (compL 31 (L.take k))) := hown.out.drew
          have HBV := Lib.hid hbl.out.drew
          obtain ⟨v', w1', hrun, hown', hgrow⟩ := apI_run HOV.out HBV.out.size (by rw [compL, List.length_map, List.length_take]; omega) (31 - y)
          have hrun' : ∀ ty, (apI #[23, 23] ty #[_, .slice (some ⟨wr.heap.size, 0, none⟩) 1 1]).run Try.prog (wr.alloc (.cells #[.int .i64 (31 - y)] 3)).drew = .ok v' w1' := hrun
          clear hrun
          rw [hst] at hown'
          have HO := Lib.hid hown'
          have hb1 := Lib.hid (apI_below HOV.out hgrow (Nat.le_refl _) HBV.out HBV.out.size)
          clear hown' hgrow hown hbl HOV hst
          go_wp2_with fail
          go_region
          all_goals
            go_wp2
            go_roundw
            case rel => exact ⟨k + 1, by omega, by go_num, HO, hb1⟩
            case measure => simp [intOf]; omega
        · obtain rfl : k = n1 := by omega
          have hown' := hown.out
          rw [List.take_of_length_le (by rw [HLN.out]; omega)] at hown'
          obtain ⟨Ao, no, co, eo, hro⟩ := hown'.newR (by rw [compL, List.length_map, HLN.out]; exact h7)
          subst eo
          have HX := HCR.out _ _ _ _ hro
          rw [show ((5 : Nat) : Int) = 5 from rfl] at HX HCF
          have HX2 := Lib.hid HX
          clear hown' hown hro HCR HLT HST HSB HX
          go_wp2_with fail
          refine HX2.out.mono ?_
          rintro e w5 ⟨rfl, hb5⟩
          have HB5 := Lib.hid (bl_step hbl.out hb5)
          have HC6 := Lib.hid (HCF.out _ HB5.out)
          clear hb5
          go_wp2_with fail
          refine HC6.out.mono ?_
          rintro e w6 ⟨v6, rfl, ⟨A6, n6, c6, rfl, _⟩, hb6⟩
          have HB6 := Lib.hid (bl_step HB0.out (bl_step HB5.out hb6))
          clear hb6
          go_wp2
          go_ret
          exact ⟨by first | rfl | (simp; exact HDD.out), HB6.out⟩
    · go_wp2_with fail
      generalize w3.alloc (.cells #[] 3) = W0 at *
      go_loopw [9, 10] (fun v i wr => ∃ k : Nat, k ≤ n1 ∧ i = .int .i64 k ∧ Hid (Own wr w3.heap.size v (compL 63 (L.take k))) ∧ Hid (Below w3.heap.size w3 wr)) (fun _ i _ => n1 - (intOf i).toNat)
      case atStart => exact ⟨0, Nat.zero_le _, rfl, by simpa [compL, Hid] using ho0, hb0⟩
      case round =>
        obtain ⟨k, hk, rfl, hown, hbl⟩ := hrel
        clear ho0 hb0
        by_cases hlt : k < n1
        · have hrw : Rw wr.drew A1 n1 c1 L := ⟨(HLT.out wr hbl.out).1.drew, (HLT.out wr hbl.out).2⟩
          obtain ⟨b, o, rfl, hbH, hcs⟩ := hrw.at_ (by omega)
          have hc := hcs k hlt
          have hkl : k < L.length := by rw [HLN.out]; exact hlt
          have hsb := HSB.out _ (getD_mem L k hkl)
          have hst := HST.out k hkl
          clear hcs hrw
          generalize L.getD k 0 = y at *
          have hsub2 := IntWalk.i64_in _ (show -9223372036854775808 ≤ 63 - y ∧ 63 - y ≤ 9223372036854775807 from ⟨by omega, by omega⟩)
          have HOV : Hid (Own wr.drew w3.heap.size _ (compL 63 (L.take k))) := hown.out.drew
          have HBV := Lib.hid hbl.out.drew
          obtain ⟨v', w1', hrun, hown', hgrow⟩ := apI_run HOV.out HBV.out.size (by rw [compL, List.length_map, List.length_take]; omega) (63 - y)
          have hrun' : ∀ ty, (apI #[23, 23] ty #[_, .slice (some ⟨wr.heap.size, 0, none⟩) 1 1]).run Try.prog (wr.alloc (.cells #[.int .i64 (63 - y)] 3)).drew = .ok v' w1' := hrun
          clear hrun
          rw [hst] at hown'
          have HO := Lib.hid hown'
          have hb1 := Lib.hid (apI_below HOV.out hgrow (Nat.le_refl _) HBV.out HBV.out.size)
          clear hown' hgrow hown hbl HOV hst
          go_wp2_with fail
          go_region
          all_goals
            go_wp2
            go_roundw
            case rel => exact ⟨k + 1, by omega, by go_num, HO, hb1⟩
            case measure => simp [intOf]; omega
        · obtain rfl : k = n1 := by omega
          have hown' := hown.out
          rw [List.take_of_length_le (by rw [HLN.out]; omega)] at hown'
          obtain ⟨Ao, no, co, eo, hro⟩ := hown'.newR (by rw [compL, List.length_map, HLN.out]; exact h7)
          subst eo
          have HX := HCR.out _ _ _ _ hro
          rw [show ((6 : Nat) : Int) = 6 from rfl] at HX HCF
          have HX2 := Lib.hid HX
          clear hown' hown hro HCR HLT HST HSB HX
          go_wp2_with fail
          refine HX2.out.mono ?_
          rintro e w5 ⟨rfl, hb5⟩
          have HB5 := Lib.hid (bl_step hbl.out hb5)
          have HC6 := Lib.hid (HCF.out _ HB5.out)
          clear hb5
          go_wp2_with fail
          refine HC6.out.mono ?_
          rintro e w6 ⟨v6, rfl, ⟨A6, n6, c6, rfl, _⟩, hb6⟩
          have HB6 := Lib.hid (bl_step HB0.out (bl_step HB5.out hb6))
          clear hb6
          go_wp2
          go_ret
          exact ⟨by first | rfl | (simp; exact HDD.out), HB6.out⟩
end Go.Proofs.Ytheoepbcejlncaa
