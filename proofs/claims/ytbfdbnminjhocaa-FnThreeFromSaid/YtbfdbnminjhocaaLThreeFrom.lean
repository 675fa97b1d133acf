/- Threes have their middle between: the law FnThreeFrom. -/
import Derived.Test.YtbfdbnminjhocaaDraw3
import Derived.Test.YtbfdbnminjhocaaDraw8
import Derived.Test.YtbfdbnminjhocaaRingM
import Derived.Test.YtbfdbnminjhocaaSameI
import Derived.Test.YtbfdbnminjhocaaThreeP
namespace Go.Proofs.Ytbfdbnminjhocaa
open Go.ChangeShapes Go.WideShapes Go.ChangeAt Go.RowKit

set_option maxRecDepth 10000 in
set_option maxHeartbeats 4000000 in
theorem law_ThreeFrom (a0 : Option Addr) (len0 cap0 : Nat) (z0 : List Int) (w : World) (w0 : IsRow .u8 w a0 len0 cap0 z0) :
    Calls Try.prog 3 #[.slice a0 len0 cap0] w fun e w' => e = .returned (.bool true) ∧ Below w.heap.size w w' := by
  obtain ⟨h, hlc, hcm⟩ := byt_of_row w0
  have HD := Lib.hid (drawThreeN_any len0 cap0 w.heap.size a0 w h (Nat.le_refl _) hlc hcm)
  clear w0 h
  by_cases hn : len0 ≤ 1048576
  rotate_left
  · go_enter Try.func3, Try.ntmps3
    go_wp2_with fail
    go_ret
    exact ⟨rfl, Below.refl _ _⟩
  go_enter Try.func3, Try.ntmps3
  go_wp2_with fail
  refine HD.out.mono ?_
  rintro e w1 ⟨v, v', l, t, rfl, ⟨A1, n1, c1, rfl, hr1⟩, ⟨A9, n9, c9, rfl, hr9⟩, hl, hb⟩
  have HB := Lib.hid hb
  have HR1 := Lib.hid hr1
  have HR9 := Lib.hid hr9
  clear hb hr1 hr9 HD
  have HC := Lib.hid (cI_ThreeIn HR1.out HR9.out)
  go_wp2_with fail
  refine HC.out.mono ?_
  rintro e w2 ⟨rfl, hb⟩
  replace HB := Lib.hid (bl_step HB.out hb)
  replace HR1 := Lib.hid (HR1.out.step hb)
  replace HR9 := Lib.hid (HR9.out.step hb)
  clear hb HC
  have HC := Lib.hid (cS_ThreeIn HR1.out HR9.out)
  go_wp2_with fail
  refine HC.out.mono ?_
  rintro e w3 ⟨rfl, hb⟩
  replace HB := Lib.hid (bl_step HB.out hb)
  replace HR1 := Lib.hid (HR1.out.step hb)
  replace HR9 := Lib.hid (HR9.out.step hb)
  clear hb HC
  by_cases hk : inB l t = true
  rotate_left
  · rw [inB_no hk]
    clear hk
    go_wp2
    go_ret
    exact ⟨rfl, HB.out⟩
  rw [hk]
  obtain ⟨hr, x, y, z, rfl, hx, hy, hz, n12, n23, n13, hh⟩ := inB_split hk
  have hn9 : n9 = 3 := by have := HR9.out.len; simpa using this.symm
  subst hn9
  have b1 : hasB2 l x z = true := by rw [hasB2, hasB_of hr hx, hasB_of hr hz]; rfl
  have b2 : hasB2 l x y = true := by rw [hasB2, hasB_of hr hx, hasB_of hr hy]; rfl
  have E1 : Hid (hasB2 l x z = true ∧ stepsR l x z = stepsI l x z) := ⟨b1, by rw [stepsR, if_pos b1]⟩
  have E2 : Hid (hasB2 l x y = true ∧ stepsR l x y = stepsI l x y) := ⟨b2, by rw [stepsR, if_pos b2]⟩
  have hlt : stepsI l x y < stepsI l x z := by simpa [has3] using hh
  have hd : Hid (decide (stepsI l x y < stepsI l x z) = true) := by simpa [Hid] using hlt
  have HM := Lib.hid (from_mid hr hx hy hz n12 hlt)
  have HM1 : Hid (fromR l x z = fromL l x z) := by rw [Hid, fromR, if_pos b1]
  obtain ⟨b, o, e, hbb, hcs⟩ := HR9.out.at_ (by omega)
  subst e
  have HK := Lib.hid (fun (W : World) (hb : Below w3.heap.size w3 W) => (⟨(hb.cell (p := ⟨b, o, none⟩) hbb).trans (hcs 0 (by omega)), (hb.cell (p := ⟨b, o + 1, none⟩) hbb).trans (hcs 1 (by omega)), (hb.cell (p := ⟨b, o + 2, none⟩) hbb).trans (hcs 2 (by omega))⟩ : W.cell? ⟨b, o, none⟩ = some (.int .i64 x) ∧ W.cell? ⟨b, o + 1, none⟩ = some (.int .i64 y) ∧ W.cell? ⟨b, o + 2, none⟩ = some (.int .i64 z)))
  have HL1 := HR1
  clear hk hr hx hy hz n12 n23 n13 hh b1 b2 hlt hcs HR9 HR1
  generalize stepsI l x y = d at *
  generalize stepsI l x z = d' at *
  have HC1 := Lib.hid (fun (W : World) (hb : Below w3.heap.size w3 W) => cI_RingFrom (HL1.out.step hb) x z)
  rw [E1.out.1, HM1.out] at HC1
  have HC2 := Lib.hid (fun (W : World) (hb : Below w3.heap.size w3 W) => cI_RingSteps (HL1.out.step hb) x y)
  rw [E2.out.1, E2.out.2] at HC2
  have HC3 := Lib.hid (fun (W : World) (hb : Below w3.heap.size w3 W) => cI_RingSteps (HL1.out.step hb) x z)
  rw [E1.out.1, E1.out.2] at HC3
  clear E1 E2 HL1 HM1
  generalize fromL l x z = M at *
  have HZ := Lib.hid (Below.refl w3.heap.size w3).drew
  go_wp2_with fail
  go_region_held3 (fun V => V.cell? ⟨b, o, none⟩ = some (.int .i64 x) ∧ V.cell? ⟨b, o + 2, none⟩ = some (.int .i64 z))
    (first
      | exact ⟨(HK.out _ HZ.out).1, (HK.out _ HZ.out).2.2⟩
      | exact ⟨(HK.out _ H1.out).1, (HK.out _ H1.out).2.2⟩)
    (first
      | (go_at_call 15; refine (HC1.out _ HZ.out).mono ?_; rintro e wa ⟨v, rfl, ⟨A4, n4, c4, rfl, hr4⟩, hb⟩; have HR4 := Lib.hid hr4; have H1 := Lib.hid (bl_step HZ.out hb); clear hb hr4))
  all_goals
    have HZ2 := Lib.hid H1.out.drew
    have HR4' : Hid (Rw wa.drew A4 n4 n4 M) := HR4.out
    clear HC1 HZ H1 HR4
    go_wp2_with fail
    go_region_held3 (fun V => V.cell? ⟨b, o, none⟩ = some (.int .i64 x) ∧ V.cell? ⟨b, o + 1, none⟩ = some (.int .i64 y))
      (first
        | exact ⟨(HK.out _ HZ2.out).1, (HK.out _ HZ2.out).2.1⟩
        | exact ⟨(HK.out _ H2.out).1, (HK.out _ H2.out).2.1⟩)
      (first
        | (go_at_call 16; refine (HC2.out _ HZ2.out).mono ?_; rintro e wb ⟨rfl, hb⟩; have HR5 := Lib.hid (HR4'.out.step hb); have H2 := Lib.hid (bl_step HZ2.out hb); clear hb))
    all_goals
      have HZ3 := Lib.hid H2.out.drew
      have HR5' : Hid (Rw wb.drew A4 n4 n4 M) := HR5.out
      clear HC2 HZ2 H2 HR5 HR4'
      go_wp2_with fail
      go_region_held3 (fun V => V.cell? ⟨b, o, none⟩ = some (.int .i64 x) ∧ V.cell? ⟨b, o + 2, none⟩ = some (.int .i64 z))
        (first
          | exact ⟨(HK.out _ HZ3.out).1, (HK.out _ HZ3.out).2.2⟩
          | exact ⟨(HK.out _ H3.out).1, (HK.out _ H3.out).2.2⟩)
        (first
          | (go_at_call 16; refine (HC3.out _ HZ3.out).mono ?_; rintro e wc ⟨rfl, hb⟩; have HR6 := Lib.hid (HR5'.out.step hb); have H3 := Lib.hid (bl_step HZ3.out hb); clear hb))
      all_goals
        clear HC3 HZ3 HR5'
        have hn4 := HR6.out.2.2.2
        have hln4 := HR6.out.len
        rw [hln4] at HM
        have HF0 : Hid (hasN M y 0 = false) := rfl
        have HFS := Lib.hid (hasN_step M y)
        generalize hasN M y = F at *
        clear hln4
        go_wp2
        go_loopw [13, 14] (fun s i wr => ∃ k : Nat, k ≤ n4 ∧ s = .bool (F k) ∧ i = .int .i64 k ∧ Hid (Rw wr A4 n4 n4 M) ∧ Hid (Below w3.heap.size w3 wr)) (fun _ i _ => n4 - (intOf i).toNat)
        case atStart => exact ⟨0, Nat.zero_le _, by rw [HF0.out], rfl, HR6, H3⟩
        case round =>
          obtain ⟨k, hk, rfl, rfl, hR, hZ⟩ := hrel
          clear HR6 H3
          by_cases hlt : k < n4
          · obtain ⟨b', o', e, hbb', hcs'⟩ := hR.out.at_ (by omega)
            subst e
            have hc := hcs' k hlt
            have hc1 := (HK.out _ hZ.out).2.1
            have hst := Lib.hid (HFS.out k)
            clear hcs'
            generalize M.getD k 0 = m at *
            generalize F k = f at *
            cases f
            · have hbv : (m == y) = F (k + 1) := by rw [hst.out]; simp
              clear HK HM HF0 HFS
              go_wp2
              go_quiet (fail)
              go_wp2
              go_roundw
              case rel => exact ⟨k + 1, by omega, rfl, by go_num, hR, Lib.hid (below_drewN hZ.out _)⟩
              case measure => simp [intOf]; omega
            · clear HK HM HF0 HFS
              go_wp2
              go_quiet (fail)
              go_wp2
              go_roundw
              case rel => exact ⟨k + 1, by omega, by rw [hst.out]; rfl, by go_num, hR, Lib.hid (below_drewN hZ.out _)⟩
              case measure => simp [intOf]; omega
          · obtain rfl : k = n4 := by omega
            rw [HM.out]
            have hd' := hd.out
            clear HK HM HF0 HFS hd
            go_wp2
            go_ret
            exact ⟨rfl, bl_step HB.out hZ.out⟩
end Go.Proofs.Ytbfdbnminjhocaa
