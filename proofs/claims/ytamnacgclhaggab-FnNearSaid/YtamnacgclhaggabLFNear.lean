/- Rings one swap away: the law FnNear. -/
import Derived.Test.YtamnacgclhaggabDraw42
import Derived.Test.YtamnacgclhaggabLawN
namespace Go.Proofs.Ytamnacgclhaggab
open Go.ChangeShapes Go.WideShapes Go.ChangeAt Go.RowKit

set_option maxRecDepth 10000 in
set_option maxHeartbeats 4000000 in
theorem law_Near (a0 : Option Addr) (len0 cap0 : Nat) (z0 : List Int) (w : World) (w0 : IsRow .u8 w a0 len0 cap0 z0) :
    Calls Try.prog 8 #[.slice a0 len0 cap0] w fun e w' => e = .returned (.bool true) ∧ Below w.heap.size w w' := by
  obtain ⟨h, hlc, hcm⟩ := byt_of_row w0
  have HD := Lib.hid (drawSwapNear_any len0 cap0 w.heap.size a0 w h (Nat.le_refl _) hlc hcm)
  clear w0 h
  by_cases hn : len0 ≤ 1048576
  rotate_left
  · go_enter Try.func8, Try.ntmps8
    go_wp2_with fail
    go_ret
    exact ⟨rfl, Below.refl _ _⟩
  go_enter Try.func8, Try.ntmps8
  go_wp2_with fail
  refine HD.out.mono ?_
  rintro e w1 ⟨v, l, rfl, ⟨A1, n1, c1, rfl, hr1⟩, hll, hb⟩
  have HB := Lib.hid hb
  have HR1 := Lib.hid hr1
  clear hb hr1 HD
  have HC := Lib.hid (cI_SwapNear HR1.out)
  go_wp2_with fail
  refine HC.out.mono ?_
  rintro e w2 ⟨v, rfl, ⟨A2, n2, c2, rfl, hr⟩, hb⟩
  replace HB := Lib.hid (bl_step HB.out hb)
  replace HR1 := Lib.hid (HR1.out.step hb)
  have HR2 := Lib.hid hr
  clear hr
  clear hb HC
  have HC := Lib.hid (cS_SwapNear HR1.out)
  go_wp2_with fail
  refine HC.out.mono ?_
  rintro e w3 ⟨v, rfl, ⟨A3, n3, c3, rfl, hr⟩, hb⟩
  replace HB := Lib.hid (bl_step HB.out hb)
  replace HR1 := Lib.hid (HR1.out.step hb)
  replace HR2 := Lib.hid (HR2.out.step hb)
  have HR3 := Lib.hid hr
  clear hr
  clear hb HC
  have HS := Lib.hid (fun (W : World) (hb : Below w3.heap.size w3 W) => sameS_any (HR2.out.step hb) (HR3.out.step hb))
  rw [sameR_self] at HS
  by_cases hk : ringB l = true
  rotate_left
  · rw [(by simpa using hk : ringB l = false)]
    clear hk HR1 HR2 HR3
    have HZ := Lib.hid (Below.refl w3.heap.size w3)
    go_wp2_with (first | (go_at_call 15; refine (HS.out _ (by first | exact HZ.out | exact HZ.out.drew)).mono ?_; rintro e wz ⟨rfl, hb⟩; replace HZ := Lib.hid (bl_step HZ.out hb); clear hb))
    go_ret
    exact ⟨rfl, bl_step HB.out HZ.out⟩
  obtain ⟨hrow, hup, hcnt⟩ := near_told hk
  have hl1 := HR1.out.len
  have h7 := HR1.out.2.2.2
  have hl2 := HR2.out.len
  have h36 : n1 = 3 ∨ n1 = 4 ∨ n1 = 5 ∨ n1 = 6 ∨ n1 = 7 := by
    have hR : Ring l := by simpa [ringB] using hk
    have := hR.1.1
    omega
  rw [hl2] at hrow hup hcnt
  rw [hl1] at hrow hcnt
  have HRO := Lib.hid hrow
  have HUP := Lib.hid hup
  have HCN := Lib.hid hcnt
  rw [hk]
  clear hk hrow hup hcnt hl1 hl2
  generalize snR l = M at *
  have HZ := Lib.hid (Below.refl w3.heap.size w3)
  go_wp2_with (first | (go_at_call 15; refine (HS.out _ (by first | exact HZ.out | exact HZ.out.drew)).mono ?_; rintro e wz ⟨rfl, hb⟩; replace HZ := Lib.hid (bl_step HZ.out hb); clear hb))
  replace HB := Lib.hid (bl_step HB.out HZ.out)
  replace HR1 := Lib.hid (HR1.out.step HZ.out)
  replace HR2 := Lib.hid (HR2.out.step HZ.out)
  clear HR3
  clear HZ HS
  have HB0 := Lib.hid HB.out
  have HL2 := Lib.hid (fun (W : World) (hb : Below wz.heap.size wz W) => HR2.out.step hb)
  have HL1 := Lib.hid (fun (W : World) (hb : Below wz.heap.size wz W) => HR1.out.step hb)
  have hb2 := HR2.out.big
  have hbn1 := HR1.out.big
  clear HR1 HR2 HB
  go_loopw [9] (fun i wr => ∃ k : Nat, k ≤ n2 ∧ i = .int .i64 k ∧ Hid (Below wz.heap.size wz wr)) (fun i _ => n2 - (intOf i).toNat)
  case atStart => exact ⟨0, Nat.zero_le _, rfl, Lib.hid (Below.refl _ _)⟩
  case round =>
    obtain ⟨k, hk, rfl, hbl⟩ := hrel
    have g0 : IntKind.i64.wrap ((n1 : Int) - 2) = (n1 : Int) - 2 := IntWalk.i64_in _ (by omega)
    by_cases hlt : k < n2
    · obtain ⟨b, o, rfl, hbH, hcs⟩ := (HL2.out wr hbl.out).rd.at_ (by omega)
      obtain ⟨Ak, ck, hc, hrk, hmd, hdm⟩ := hcs k hlt
      obtain ⟨el, e1, e2, e3⟩ := HRO.out k hlt
      rw [el] at hc hrk hmd
      have hcc : wr.cell? ⟨b, o + k, none⟩ = some (.slice Ak n1 ck) := hc
      have hck := cI_SwapDifferR (HL1.out wr hbl.out) hrk hbn1 hmd hdm
      rw [e1, e2] at hck
      have HCK := Lib.hid hck
      have HKC := Lib.hid (fun (W : World) (hW : Below wr.heap.size wr W) => (hW.cell (p := ⟨b, o + k, none⟩) hbH).trans hcc)
      have HN := Lib.hid (fun (W : World) (hW : Below wr.heap.size wr W) => by
        have h := cI_RingNumberR ((hrk.below hW).more hW.size) hbn1 hmd hdm
        rw [e3] at h
        exact h)
      obtain rfl | ⟨j, rfl⟩ : k = 0 ∨ ∃ j, k = j + 1 := by
        rcases k with _ | j
        · exact .inl rfl
        · exact .inr ⟨j, rfl⟩
      · clear hcs hrk hmd hdm hc el e1 e2 e3 hck
        generalize numR (rowK M 0) = x at *
        simp only [Nat.add_zero] at hcc HKC
        rw [show ((0 : Nat) : Int) = 0 from rfl]
        go_wp2_with fail
        refine HCK.out.mono ?_
        rintro e w5 ⟨rfl, hb5⟩
        have HB5 := Lib.hid (bl_step hbl.out hb5)
        have hc5 := HKC.out w5 hb5
        have HC := Lib.hid (HN.out w5 hb5)
        clear hb5 HCK hbl HN HKC hcc
        go_wp2_with fail
        refine HC.out.mono ?_
        rintro e w6 ⟨rfl, hb6⟩
        have HB6 := Lib.hid (bl_step HB5.out hb6)
        clear HC hb6 hc5 HB5
        go_wp2_with fail
        go_roundw
        case rel => exact ⟨0 + 1, by omega, by go_num, HB6⟩
        case measure => simp [intOf]; omega
      · obtain ⟨Aj, cj, hcj, hrj, hmj, hdj⟩ := hcs j (by omega)
        obtain ⟨el', _, _, e3'⟩ := HRO.out j (by omega)
        rw [el'] at hcj hrj hmj
        have hup := HUP.out j hlt
        have HKJ := Lib.hid (fun (W : World) (hW : Below wr.heap.size wr W) => (hW.cell (p := ⟨b, o + j, none⟩) hbH).trans hcj)
        have HNJ := Lib.hid (fun (W : World) (hW : Below wr.heap.size wr W) => by
          have h := cI_RingNumberR ((hrj.below hW).more hW.size) hbn1 hmj hdj
          rw [e3'] at h
          exact h)
        clear hcs hrk hmd hdm hc el e1 e2 e3 hck hcj hrj hmj hdj el' e3'
        generalize numR (rowK M (j + 1)) = x at *
        generalize numR (rowK M j) = y at *
        go_wp2_with fail
        refine HCK.out.mono ?_
        rintro e w5 ⟨rfl, hb5⟩
        have HB5 := Lib.hid (bl_step hbl.out hb5)
        have hc5 := HKC.out w5 hb5
        have HC := Lib.hid (HN.out w5 hb5)
        clear HCK HN hcc
        go_wp2_with fail
        refine HC.out.mono ?_
        rintro e w6 ⟨rfl, hb6⟩
        have HB6 := Lib.hid (bl_step HB5.out hb6)
        have hb56 := hb5.trans (hb6.mono hb5.size)
        have hc6 : w6.cell? ⟨b, o + j, none⟩ = some (.slice Aj n1 cj) := HKJ.out w6 hb56
        replace HC := Lib.hid (HNJ.out w6 hb56)
        have g1 : IntKind.i64.wrap ((j : Int) + 1 - 1) = (j : Int) := by rw [IntWalk.i64_in _ (by omega)]; omega
        have hle : decide (x ≤ y) = false := by simp; omega
        clear hb6 hc5 HB5 hb5 hb56 HNJ HKJ HKC hbl
        go_wp2_with fail
        refine HC.out.mono ?_
        rintro e w7 ⟨rfl, hb7⟩
        have HB7 := Lib.hid (bl_step HB6.out hb7)
        clear HC hb7 HB6 hc6
        go_wp2_with fail
        go_roundw
        case rel => exact ⟨j + 1 + 1, by omega, by go_num, HB7⟩
        case measure => simp [intOf]; omega
    · obtain rfl : n2 = k := by omega
      have hcn := HCN.out
      clear HL1 HL2 HRO HUP g0
      obtain rfl | rfl | rfl | rfl | rfl := h36
      all_goals
        simp at hcn
        subst hcn
        go_wp2
        go_ret
        exact ⟨rfl, bl_step HB0.out hbl.out⟩
end Go.Proofs.Ytamnacgclhaggab
