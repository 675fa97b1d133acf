/- Closings are closed, and sure: the law FnClose. -/
import Derived.Test.YtdndddlikdccgaaDraw31
import Derived.Test.YtdndddlikdccgaaLawG
import Derived.Test.YtdndddlikdccgaaTgC
namespace Go.Proofs.Ytdndddlikdccgaa
open Go.ChangeShapes Go.WideShapes Go.ChangeAt Go.RowKit

set_option maxRecDepth 10000 in
set_option maxHeartbeats 4000000 in
theorem law_Close (a0 : Option Addr) (len0 cap0 : Nat) (z0 : List Int) (w : World) (w0 : IsRow .u8 w a0 len0 cap0 z0) :
    Calls Try.prog 4 #[.slice a0 len0 cap0] w fun e w' => e = .returned (.bool true) ∧ Below w.heap.size w w' := by
  obtain ⟨h, hlc, hcm⟩ := byt_of_row w0
  have HD := Lib.hid (drawTClose_any len0 cap0 w.heap.size a0 w h (Nat.le_refl _) hlc hcm)
  clear w0 h
  by_cases hn : len0 ≤ 1048576
  rotate_left
  · go_enter Try.func4, Try.ntmps4
    go_wp2_with fail
    go_ret
    exact ⟨rfl, Below.refl _ _⟩
  go_enter Try.func4, Try.ntmps4
  go_wp2_with fail
  refine HD.out.mono ?_
  rintro e w1 ⟨m, A1, n1, c1, L, rfl, hr1, ⟨hnc1, hcm1, hn8, hm3, hm10⟩, hb⟩
  have HB := Lib.hid hb
  have HR1 := Lib.hid hr1
  clear hb hr1 HD
  have HC := Lib.hid (cI_ThreeClose HR1.out (m : Int))
  go_wp2_with fail
  refine HC.out.mono ?_
  rintro e w2 ⟨v, rfl, ⟨A2, n2, c2, rfl, hr⟩, hb⟩
  replace HB := Lib.hid (bl_step HB.out hb)
  replace HR1 := Lib.hid (HR1.out.step hb)
  have HR2 := Lib.hid hr
  clear hr
  clear hb HC
  have HC := Lib.hid (cS_ThreeClose HR1.out (m : Int))
  go_wp2_with fail
  refine HC.out.mono ?_
  rintro e w3 ⟨v, rfl, ⟨A3, n3, c3, rfl, hr⟩, hb⟩
  replace HB := Lib.hid (bl_step HB.out hb)
  replace HR1 := Lib.hid (HR1.out.step hb)
  replace HR2 := Lib.hid (HR2.out.step hb)
  have HR3 := Lib.hid hr
  clear hr
  clear hb HC
  have HS := Lib.hid (fun (W : World) (hb : Below w3.heap.size w3 W) => sameS_any (HR2.out.step hb) (HR3.out.step hb))
  rw [sameR_self] at HS
  by_cases hk : Tel (m : Int) L
  rotate_left
  · rw [(tel_no hk).1]
    clear hk HR1 HR2 HR3
    have HZ := Lib.hid (Below.refl w3.heap.size w3)
    go_wp2_with (first | (go_at_call 20; refine (HS.out _ (by first | exact HZ.out | exact HZ.out.drew)).mono ?_; rintro e wz ⟨rfl, hb⟩; replace HZ := Lib.hid (bl_step HZ.out hb); clear hb))
    go_ret
    exact ⟨rfl, bl_step HB.out HZ.out⟩
  have E0 := Lib.hid (tel_yes hk).1
  have h3 : 3 ≤ m := by have := hk.1; omega
  have h6 : m ≤ 6 := by have := hk.2.1; omega
  have e1 : clR (m : Int) L = cloL m L := by rw [clR, if_pos hk, Int.toNat_natCast]
  have e2 : suR (m : Int) L = sharedL m (agreeL m L) := by rw [suR, if_pos hk, Int.toNat_natCast]
  have M1 := Lib.hid (fun t (ht : t ∈ clR (m : Int) L) => by
    rw [e1] at ht
    have := clo_sure h3 h6 hk.2.2.2 ht
    rwa [← e2] at this)
  have M2 := Lib.hid (fun t (ht : t ∈ L) => by
    have := clo_told (n := m) hk.2.2.2 ht
    rwa [← e1] at this)
  have M3 : Hid (tel (m : Int) (clR (m : Int) L) = true → rgR (m : Int) (clR (m : Int) L) = rgR (m : Int) L) := fun h => by
    have ht : Tel (m : Int) (clR (m : Int) L) := by simpa [tel] using h
    rw [rgR, rgR, if_pos ht, if_pos hk, Int.toNat_natCast, e1, agree_clo h3 h6 hk.2.2.2]
  rw [E0.out]
  clear hk h3 h6 e1 e2
  generalize clR (m : Int) L = C at *
  have HZ := Lib.hid (Below.refl w3.heap.size w3)
  go_wp2_with (first | (go_at_call 20; refine (HS.out _ (by first | exact HZ.out | exact HZ.out.drew)).mono ?_; rintro e wz ⟨rfl, hb⟩; replace HZ := Lib.hid (bl_step HZ.out hb); clear hb))
  replace HB := Lib.hid (bl_step HB.out HZ.out)
  replace HR1 := Lib.hid (HR1.out.step HZ.out)
  replace HR2 := Lib.hid (HR2.out.step HZ.out)
  clear HR3
  clear HZ HS
  have HC := Lib.hid (cI_ThreeSure HR1.out (m : Int))
  rw [E0.out] at HC
  go_wp2_with fail
  refine HC.out.mono ?_
  rintro e w4 ⟨v, rfl, ⟨A4, n4, c4, rfl, hr⟩, hb⟩
  replace HB := Lib.hid (bl_step HB.out hb)
  replace HR1 := Lib.hid (HR1.out.step hb)
  replace HR2 := Lib.hid (HR2.out.step hb)
  have HR4 := Lib.hid hr
  clear hr
  clear hb HC
  generalize suR (m : Int) L = S at *
  have HB0 := Lib.hid HB.out
  have HL1 := Lib.hid (fun (W : World) (hb : Below w4.heap.size w4 W) => HR1.out.step hb)
  have HL2 := Lib.hid (fun (W : World) (hb : Below w4.heap.size w4 W) => HR2.out.step hb)
  have HL4 := Lib.hid (fun (W : World) (hb : Below w4.heap.size w4 W) => HR4.out.step hb)
  have N1 := Lib.hid HR1.out.len
  have N2 := Lib.hid HR2.out.len
  have N4 := Lib.hid HR4.out.len
  have hb2 := HR2.out.big
  have hb4 := HR4.out.big
  have HT1 := Lib.hid (fun (W : World) (hb : Below w4.heap.size w4 W) => by
    have := cI_ThreeRings (HR1.out.step hb) (m : Int)
    rw [E0.out] at this
    exact this)
  have HT2 := Lib.hid (fun (W : World) (hb : Below w4.heap.size w4 W) => cI_ThreeRings (HR2.out.step hb) (m : Int))
  clear HR1 HR2 HR4 HB E0
  go_wp2
  go_loopw [11] (fun i wr => ∃ k : Nat, k ≤ n2 ∧ i = .int .i64 k ∧ Hid (Below w4.heap.size w4 wr)) (fun i _ => n2 - (intOf i).toNat)
  case atStart => exact ⟨0, Nat.zero_le _, rfl, Lib.hid (Below.refl _ _)⟩
  case round =>
    obtain ⟨k, hk, rfl, hbo⟩ := hrel
    by_cases hlt : k < n2
    · obtain ⟨wo, rfl⟩ : ∃ wo : World, wo = wr := ⟨_, rfl⟩
      have hmem := M1.out _ (rowK_mem (show k < C.length by rw [N2.out]; exact hlt))
      have HF1 := Lib.hid (fun j (hj : j < S.length) => any_step (fun s => same s (rowK C k)) S j hj)
      have HF2 : Hid (S.length = n4 → (S.take n4).any (fun s => same s (rowK C k)) = true) := fun h => by
        rw [List.take_of_length_le (by omega), List.any_eq_true]
        exact ⟨_, hmem, same_self _⟩
      clear hmem
      obtain ⟨F, hF⟩ : ∃ F : Nat → Bool, F = fun j => (S.take j).any (fun s => same s (rowK C k)) := ⟨_, rfl⟩
      have HF0 : Hid (Value.bool false = .bool (F 0)) := by rw [hF]; rfl
      have HF1' : Hid (∀ j, j < S.length → F (j + 1) = (F j || same (rowK S j) (rowK C k))) := fun j hj => by rw [hF]; exact HF1.out j hj
      have HF2' : Hid (S.length = n4 → F n4 = true) := fun h => by rw [hF]; exact HF2.out h
      clear HF1 HF2 hF
      go_wp2
      go_loopw [12, 13] (fun v i wr => ∃ j : Nat, j ≤ n4 ∧ i = .int .i64 j ∧ v = .bool (F j) ∧ Hid (Below w4.heap.size w4 wr)) (fun _ i _ => n4 - (intOf i).toNat)
      case atStart => exact ⟨0, Nat.zero_le _, rfl, HF0.out, hbo⟩
      case round =>
        obtain ⟨j, hj, rfl, rfl, hbi⟩ := hrel
        by_cases hlj : j < n4
        · have hji : j < S.length := by rw [N4.out]; exact hlj
          have HS1 := Lib.hid (HF1'.out j hji)
          generalize hFj : F j = f at *
          have HFJ := Lib.hid hFj
          clear hFj
          cases f with
          | true =>
            have e1 : F (j + 1) = true := by rw [HS1.out]; rfl
            have E1 := Lib.hid e1
            clear e1 HS1
            go_wp2
            go_quiet (fail)
            go_wp2
            go_roundw
            case rel => exact ⟨j + 1, by omega, by go_num, by rw [E1.out], Lib.hid (below_drewN hbi.out _)⟩
            case measure => simp [intOf]; omega
          | false =>
            obtain ⟨b, o, e, hbH, hcs⟩ := (HL4.out wr hbi.out).rd.at_ (by omega)
            obtain ⟨b', o', e', hbH', hcs'⟩ := (HL2.out wr hbi.out).rd.at_ (by omega)
            have B1 := (HL4.out wr hbi.out).row j hlj
            have B2 := (HL2.out wr hbi.out).row k hlt
            subst e
            subst e'
            obtain ⟨A8, c8, hc, r1, _, _⟩ := hcs j hlj
            obtain ⟨A9, c9, hc', r2, _, _⟩ := hcs' k hlt
            have e1 : F (j + 1) = same (rowK S j) (rowK C k) := by rw [HS1.out]; rfl
            have E1 := Lib.hid e1
            have HBI := Lib.hid hbi.out
            clear hcs hcs' e1 HS1 hji
            generalize rowK S j = x at *
            generalize rowK C k = y at *
            have HC := Lib.hid (fun Q => sameInts_drew A8 A9 x.length y.length c8 c9 x y wr.heap.size (wr.drewN Q) (r1.drewN Q) (r2.drewN Q) B1 B2)
            clear r1 r2 B1 B2 hbi hbo
            generalize same x y = g at *
            generalize x.length = lx at *
            generalize y.length = ly at *
            go_wp2
            go_quiet ((go_at_call 22; refine Calls.quiet_of (HC.out _)))
            go_wp2
            go_roundw
            case rel => exact ⟨j + 1, by omega, by go_num, by rw [E1.out], Lib.hid (below_drewN HBI.out _)⟩
            case measure => simp [intOf]; omega
        · obtain rfl : n4 = j := by omega
          have e2 := HF2'.out N4.out
          rw [e2]
          clear e2 HF0 HF1' HF2'
          go_wp2
          go_roundw
          case rel => exact ⟨k + 1, by omega, by go_num, hbi⟩
          case measure => simp [intOf]; omega
    · obtain rfl : n2 = k := by omega
      have HBO := Lib.hid hbo.out
      clear hbo
      go_wp2
      go_loopw [14] (fun i wr => ∃ k : Nat, k ≤ n1 ∧ i = .int .i64 k ∧ Hid (Below w4.heap.size w4 wr)) (fun i _ => n1 - (intOf i).toNat)
      case atStart => exact ⟨0, Nat.zero_le _, rfl, Lib.hid HBO.out⟩
      case round =>
        obtain ⟨k, hk, rfl, hbo⟩ := hrel
        by_cases hlt : k < n1
        · obtain ⟨wo, rfl⟩ : ∃ wo : World, wo = wr := ⟨_, rfl⟩
          have hmem := M2.out _ (rowK_mem (show k < L.length by rw [N1.out]; exact hlt))
          have HF1 := Lib.hid (fun j (hj : j < C.length) => any_step (fun s => same s (rowK L k)) C j hj)
          have HF2 : Hid (C.length = n2 → (C.take n2).any (fun s => same s (rowK L k)) = true) := fun h => by
            rw [List.take_of_length_le (by omega), List.any_eq_true]
            exact ⟨_, hmem, same_self _⟩
          clear hmem
          obtain ⟨F, hF⟩ : ∃ F : Nat → Bool, F = fun j => (C.take j).any (fun s => same s (rowK L k)) := ⟨_, rfl⟩
          have HF0 : Hid (Value.bool false = .bool (F 0)) := by rw [hF]; rfl
          have HF1' : Hid (∀ j, j < C.length → F (j + 1) = (F j || same (rowK C j) (rowK L k))) := fun j hj => by rw [hF]; exact HF1.out j hj
          have HF2' : Hid (C.length = n2 → F n2 = true) := fun h => by rw [hF]; exact HF2.out h
          clear HF1 HF2 hF
          go_wp2
          go_loopw [15, 16] (fun v i wr => ∃ j : Nat, j ≤ n2 ∧ i = .int .i64 j ∧ v = .bool (F j) ∧ Hid (Below w4.heap.size w4 wr)) (fun _ i _ => n2 - (intOf i).toNat)
          case atStart => exact ⟨0, Nat.zero_le _, rfl, HF0.out, hbo⟩
          case round =>
            obtain ⟨j, hj, rfl, rfl, hbi⟩ := hrel
            by_cases hlj : j < n2
            · have hji : j < C.length := by rw [N2.out]; exact hlj
              have HS1 := Lib.hid (HF1'.out j hji)
              generalize hFj : F j = f at *
              have HFJ := Lib.hid hFj
              clear hFj
              cases f with
              | true =>
                have e1 : F (j + 1) = true := by rw [HS1.out]; rfl
                have E1 := Lib.hid e1
                clear e1 HS1
                go_wp2
                go_quiet (fail)
                go_wp2
                go_roundw
                case rel => exact ⟨j + 1, by omega, by go_num, by rw [E1.out], Lib.hid (below_drewN hbi.out _)⟩
                case measure => simp [intOf]; omega
              | false =>
                obtain ⟨b, o, e, hbH, hcs⟩ := (HL2.out wr hbi.out).rd.at_ (by omega)
                obtain ⟨b', o', e', hbH', hcs'⟩ := (HL1.out wr hbi.out).rd.at_ (by omega)
                have B1 := (HL2.out wr hbi.out).row j hlj
                have B2 := (HL1.out wr hbi.out).row k hlt
                subst e
                subst e'
                obtain ⟨A8, c8, hc, r1, _, _⟩ := hcs j hlj
                obtain ⟨A9, c9, hc', r2, _, _⟩ := hcs' k hlt
                have e1 : F (j + 1) = same (rowK C j) (rowK L k) := by rw [HS1.out]; rfl
                have E1 := Lib.hid e1
                have HBI := Lib.hid hbi.out
                clear hcs hcs' e1 HS1 hji
                generalize rowK C j = x at *
                generalize rowK L k = y at *
                have HC := Lib.hid (fun Q => sameInts_drew A8 A9 x.length y.length c8 c9 x y wr.heap.size (wr.drewN Q) (r1.drewN Q) (r2.drewN Q) B1 B2)
                clear r1 r2 B1 B2 hbi hbo
                generalize same x y = g at *
                generalize x.length = lx at *
                generalize y.length = ly at *
                go_wp2
                go_quiet ((go_at_call 22; refine Calls.quiet_of (HC.out _)))
                go_wp2
                go_roundw
                case rel => exact ⟨j + 1, by omega, by go_num, by rw [E1.out], Lib.hid (below_drewN HBI.out _)⟩
                case measure => simp [intOf]; omega
            · obtain rfl : n2 = j := by omega
              have e2 := HF2'.out N2.out
              rw [e2]
              clear e2 HF0 HF1' HF2'
              go_wp2
              go_roundw
              case rel => exact ⟨k + 1, by omega, by go_num, hbi⟩
              case measure => simp [intOf]; omega
        · obtain rfl : n1 = k := by omega
          have HBO := Lib.hid hbo.out
          clear hbo
          have HY1 := Lib.hid (HT1.out _ HBO.out)
          clear HT1 HL1 HL2 HL4 M1 M2
          go_wp2_with fail
          refine HY1.out.mono ?_
          rintro e w8 ⟨rfl, hb8⟩
          have HB8 := Lib.hid (bl_step HBO.out hb8)
          have HY2 := Lib.hid (HT2.out _ HB8.out)
          clear hb8 HY1 HT2
          cases ht : tel (m : Int) C with
          | false =>
            rw [ht] at HY2
            clear ht M3
            go_wp2_with fail
            refine HY2.out.mono ?_
            rintro e w9 ⟨rfl, hb9⟩
            have HB9 := Lib.hid (bl_step HB8.out hb9)
            clear hb9 HY2
            go_wp2
            go_ret
            exact ⟨rfl, bl_step HB0.out HB9.out⟩
          | true =>
            rw [ht, M3.out ht] at HY2
            clear ht M3
            go_wp2_with fail
            refine HY2.out.mono ?_
            rintro e w9 ⟨rfl, hb9⟩
            have HB9 := Lib.hid (bl_step HB8.out hb9)
            clear hb9 HY2
            go_wp2
            go_ret
            exact ⟨rfl, bl_step HB0.out HB9.out⟩
end Go.Proofs.Ytdndddlikdccgaa
