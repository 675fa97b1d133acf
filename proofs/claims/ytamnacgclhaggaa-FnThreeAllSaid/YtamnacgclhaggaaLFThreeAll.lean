/- Rings have half of all threes: the law FnThreeAll. -/
import Derived.Test.YtamnacgclhaggaaDraw39
import Derived.Test.YtamnacgclhaggaaLawA
namespace Go.Proofs.Ytamnacgclhaggaa
open Go.ChangeShapes Go.WideShapes Go.ChangeAt Go.RowKit

set_option maxRecDepth 10000 in
set_option maxHeartbeats 4000000 in
theorem law_ThreeAll (a0 : Option Addr) (len0 cap0 : Nat) (z0 : List Int) (w : World) (w0 : IsRow .u8 w a0 len0 cap0 z0) :
    Calls Try.prog 3 #[.slice a0 len0 cap0] w fun e w' => e = .returned (.bool true) ∧ Below w.heap.size w w' := by
  obtain ⟨h, hlc, hcm⟩ := byt_of_row w0
  have HD := Lib.hid (drawThreeAll_any len0 cap0 w.heap.size a0 w h (Nat.le_refl _) hlc hcm)
  clear w0 h
  by_cases hn : len0 ≤ 1048576
  rotate_left
  · go_enter Try.func3, Try.ntmps3
    go_wp2_with fail
    go_ret
    exact ⟨rfl, Below.refl _ _⟩
  go_enter Try.func3, Try.ntmps3
  go_wp2_with fail
  refine HD.out.mono ?_
  rintro e w1 ⟨v, l, rfl, ⟨A1, n1, c1, rfl, hr1⟩, hl, hb⟩
  have HB := Lib.hid hb
  have HR1 := Lib.hid hr1
  clear hb hr1 HD
  have HC := Lib.hid (cI_ThreeAll HR1.out)
  go_wp2_with fail
  refine HC.out.mono ?_
  rintro e w2 ⟨v, rfl, ⟨A2, n2, c2, rfl, hr⟩, hb⟩
  replace HB := Lib.hid (bl_step HB.out hb)
  replace HR1 := Lib.hid (HR1.out.step hb)
  have HR2 := Lib.hid hr
  clear hr
  clear hb HC
  have HC := Lib.hid (cS_ThreeAll HR1.out)
  go_wp2_with fail
  refine HC.out.mono ?_
  rintro e w3 ⟨v, rfl, ⟨A3, n3, c3, rfl, hr⟩, hb⟩
  replace HB := Lib.hid (bl_step HB.out hb)
  replace HR1 := Lib.hid (HR1.out.step hb)
  replace HR2 := Lib.hid (HR2.out.step hb)
  have HR3 := Lib.hid hr
  clear hr
  clear hb HC
  have HS := Lib.hid (fun (W : World) (hb : Below w3.heap.size w3 W) => sameS_any (HR2.out.step hb) (HR3.out.step hb))
  rw [sameR_self] at HS
  by_cases hk : ringB l = true
  rotate_left
  · rw [(by simpa using hk : ringB l = false)]
    clear hk HR1 HR2 HR3
    have HZ := Lib.hid (Below.refl w3.heap.size w3)
    go_wp2_with (first | (go_at_call 15; refine (HS.out _ (by first | exact HZ.out | exact HZ.out.drew)).mono ?_; rintro e wz ⟨rfl, hb⟩; replace HZ := Lib.hid (bl_step HZ.out hb); clear hb))
    go_ret
    exact ⟨rfl, bl_step HB.out HZ.out⟩
  obtain ⟨hso, hin, hcnt⟩ := all_told hk
  have HLN := Lib.hid HR2.out.len
  have hl1 := HR1.out.len
  have h7 := HR1.out.2.2.2
  rw [HR2.out.len, hl1] at hcnt
  have h36 : n1 = 3 ∨ n1 = 4 ∨ n1 = 5 ∨ n1 = 6 ∨ n1 = 7 := by
    have hR : Ring l := by simpa [ringB] using hk
    have := hR.1.1
    omega
  have HIN := Lib.hid hin
  have HSO : Hid (∀ k, k + 1 < (alR l).length → tnum (rowK (alR l) k) < tnum (rowK (alR l) (k + 1))) := fun k h1 => by
    have h := List.pairwise_iff_getElem.1 hso k (k + 1) (by omega) h1 (by omega)
    have e1 : rowK (alR l) k = (alR l)[k] := by simp [rowK, List.getD, (by omega : k < (alR l).length)]
    have e2 : rowK (alR l) (k + 1) = (alR l)[k + 1] := by simp [rowK, List.getD, h1]
    rw [e1, e2]
    exact h
  have HCN := Lib.hid hcnt
  rw [hk]
  clear hk hso hin hcnt hl1
  generalize alR l = M at *
  have HZ := Lib.hid (Below.refl w3.heap.size w3)
  go_wp2_with (first | (go_at_call 15; refine (HS.out _ (by first | exact HZ.out | exact HZ.out.drew)).mono ?_; rintro e wz ⟨rfl, hb⟩; replace HZ := Lib.hid (bl_step HZ.out hb); clear hb))
  replace HB := Lib.hid (bl_step HB.out HZ.out)
  replace HR1 := Lib.hid (HR1.out.step HZ.out)
  replace HR2 := Lib.hid (HR2.out.step HZ.out)
  clear HR3
  clear HZ HS
  have HB0 := Lib.hid HB.out
  have HL2 := Lib.hid (fun (W : World) (hb : Below wz.heap.size wz W) => HR2.out.step hb)
  have HC := Lib.hid (fun (W : World) (hb : Below wz.heap.size wz W) (t : List Int) (ht : t ∈ M) (A' : Option Addr) (d : Nat) (h' : Rd W W.heap.size A' 3 t) (hmd : 3 ≤ d) (hdm : d ≤ 9223372036854775807) => by
    have := cI_ThreeInR (HR1.out.step hb) h' (by omega) hmd hdm
    rw [(HIN.out t ht).1] at this
    exact this)
  have hb2 := HR2.out.big
  clear HR1 HR2 HB
  go_loopw [9] (fun i wr => ∃ k : Nat, k ≤ n2 ∧ i = .int .i64 k ∧ Hid (Below wz.heap.size wz wr)) (fun i _ => n2 - (intOf i).toNat)
  case atStart => exact ⟨0, Nat.zero_le _, rfl, Lib.hid (Below.refl _ _)⟩
  case round =>
    obtain ⟨k, hk, rfl, hbl⟩ := hrel
    by_cases hlt : k < n2
    · obtain ⟨b, o, rfl, hbH, hcs⟩ := (HL2.out wr hbl.out).rd.at_ (by omega)
      obtain ⟨Ak, ck, hc, hrk, hmd, hdm⟩ := hcs k hlt
      have hkl : k < M.length := by rw [HLN.out]; exact hlt
      have hmem := rowK_mem hkl
      obtain ⟨x, y, z, e, hx0, hx5, hy0, hy5, hz0, hz5⟩ := (HIN.out _ hmem).2
      have HCk := HC.out wr hbl.out _ hmem Ak ck
      rw [e] at hc hrk hmd HCk
      have HCK := Lib.hid (HCk hrk hmd hdm)
      obtain ⟨b1, o1, rfl, hb1, p0, p1, p2⟩ := rd3 hrk
      have hcc : wr.cell? ⟨b, o + k, none⟩ = some (.slice (some ⟨b1, o1, none⟩) 3 ck) := hc
      have HTN : Hid (tnum (rowK M k) = 100 * x + 10 * y + z) := by rw [Hid, e]; rfl
      obtain rfl | ⟨j, rfl⟩ : k = 0 ∨ ∃ j, k = j + 1 := by
        rcases k with _ | j
        · exact .inl rfl
        · exact .inr ⟨j, rfl⟩
      · clear hcs hrk hmd hdm hmem e HCk hc p0 p1 p2 HTN
        simp only [Nat.add_zero] at hcc
        rw [show ((0 : Nat) : Int) = 0 from rfl]
        go_wp2_with fail
        refine HCK.out.mono ?_
        rintro e w5 ⟨rfl, hb5⟩
        have HB5 := Lib.hid (bl_step hbl.out hb5)
        clear hb5 HCK hbl
        go_wp2
        go_quiet (fail)
        go_wp2
        go_roundw
        case rel => exact ⟨0 + 1, by omega, by go_num, Lib.hid (below_drewN HB5.out _)⟩
        case measure => simp [intOf]; omega
      · obtain ⟨Aj, cj, hcj, hrj, _, _⟩ := hcs j (by omega)
        have hjl : j < M.length := by omega
        obtain ⟨x', y', z', e', hx0', hx5', hy0', hy5', hz0', hz5'⟩ := (HIN.out _ (rowK_mem hjl)).2
        rw [e'] at hcj hrj
        obtain ⟨b2, o2, rfl, hb2', r0, r1, r2⟩ := rd3 hrj
        have hlt3 : 100 * x' + 10 * y' + z' < 100 * x + 10 * y + z := by
          have h := HSO.out j hkl
          rw [HTN.out, e'] at h
          exact h
        have HK5 := Lib.hid (fun (W : World) (hW : Below wr.heap.size wr W) => (⟨(hW.cell (p := ⟨b, o + (j + 1), none⟩) hbH).trans hcc, (hW.cell (p := ⟨b, o + j, none⟩) hbH).trans hcj, (hW.cell (p := ⟨b1, o1, none⟩) hb1).trans p0, (hW.cell (p := ⟨b1, o1 + 1, none⟩) hb1).trans p1, (hW.cell (p := ⟨b1, o1 + 2, none⟩) hb1).trans p2, (hW.cell (p := ⟨b2, o2, none⟩) hb2').trans r0, (hW.cell (p := ⟨b2, o2 + 1, none⟩) hb2').trans r1, (hW.cell (p := ⟨b2, o2 + 2, none⟩) hb2').trans r2⟩ : _ ∧ _ ∧ _ ∧ _ ∧ _ ∧ _ ∧ _ ∧ _))
        clear hcs hrk hmd hdm hmem e HCk hc p0 p1 p2 HTN hcj hrj r0 r1 r2 e' hjl hkl
        go_wp2_with fail
        refine HCK.out.mono ?_
        rintro e w5 ⟨rfl, hb5⟩
        have HB5 := Lib.hid (bl_step hbl.out hb5)
        obtain ⟨k0, k1, k2, k3, k4, k5, k6, k7⟩ := HK5.out w5 hb5
        have k1' : w5.cell? ⟨b, o + j, none⟩ = some (.slice (some ⟨b2, o2, none⟩) 3 cj) := k1
        have g1 : IntKind.i64.wrap ((j : Int) + 1 - 1) = (j : Int) := by rw [IntWalk.i64_in _ (by omega)]; omega
        have a1 : IntKind.i64.wrap (100 * x) = 100 * x := IntWalk.i64_in _ (by omega)
        have a2 : IntKind.i64.wrap (10 * y) = 10 * y := IntWalk.i64_in _ (by omega)
        have a3 : IntKind.i64.wrap (100 * x + 10 * y) = 100 * x + 10 * y := IntWalk.i64_in _ (by omega)
        have a4 : IntKind.i64.wrap (100 * x + 10 * y + z) = 100 * x + 10 * y + z := IntWalk.i64_in _ (by omega)
        have a5 : IntKind.i64.wrap (100 * x') = 100 * x' := IntWalk.i64_in _ (by omega)
        have a6 : IntKind.i64.wrap (10 * y') = 10 * y' := IntWalk.i64_in _ (by omega)
        have a7 : IntKind.i64.wrap (100 * x' + 10 * y') = 100 * x' + 10 * y' := IntWalk.i64_in _ (by omega)
        have a8 : IntKind.i64.wrap (100 * x' + 10 * y' + z') = 100 * x' + 10 * y' + z' := IntWalk.i64_in _ (by omega)
        have hle : decide (100 * x + 10 * y + z ≤ 100 * x' + 10 * y' + z') = false := by simp; omega
        clear hb5 HCK hbl k1 HK5
        go_wp2
        go_quiet (fail)
        go_wp2
        go_roundw
        case rel => exact ⟨j + 1 + 1, by omega, by go_num, Lib.hid (below_drewN HB5.out _)⟩
        case measure => simp [intOf]; omega
    · obtain rfl : n2 = k := by omega
      have hcn := HCN.out
      clear HC HL2
      obtain rfl | rfl | rfl | rfl | rfl := h36
      all_goals
        simp at hcn
      · obtain rfl : n2 = 3 := by omega
        go_wp2
        go_ret
        exact ⟨rfl, bl_step HB0.out hbl.out⟩
      · obtain rfl : n2 = 12 := by omega
        go_wp2
        go_ret
        exact ⟨rfl, bl_step HB0.out hbl.out⟩
      · obtain rfl : n2 = 30 := by omega
        go_wp2
        go_ret
        exact ⟨rfl, bl_step HB0.out hbl.out⟩
      · obtain rfl : n2 = 60 := by omega
        go_wp2
        go_ret
        exact ⟨rfl, bl_step HB0.out hbl.out⟩
      · obtain rfl : n2 = 105 := by omega
        go_wp2
        go_ret
        exact ⟨rfl, bl_step HB0.out hbl.out⟩
end Go.Proofs.Ytamnacgclhaggaa
