/- Pairs part others by threes: the law FnPartsThree. -/
import Derived.Test.YtamnacgclhaggaaDraw36
import Derived.Test.YtamnacgclhaggaaLawM
import Derived.Test.YtamnacgclhaggaaPqM
import Derived.Test.YtamnacgclhaggaaThrI
namespace Go.Proofs.Ytamnacgclhaggaa
open Go.ChangeShapes Go.WideShapes Go.ChangeAt Go.RowKit

set_option maxRecDepth 10000 in
set_option maxHeartbeats 4000000 in
theorem law_PartsThree (a0 : Option Addr) (len0 cap0 : Nat) (z0 : List Int) (w : World) (w0 : IsRow .u8 w a0 len0 cap0 z0) :
    Calls Try.prog 11 #[.slice a0 len0 cap0] w fun e w' => e = .returned (.bool true) ∧ Below w.heap.size w w' := by
  obtain ⟨h, hlc, hcm⟩ := byt_of_row w0
  have HD := Lib.hid (drawPairParts_any len0 cap0 w.heap.size a0 w h (Nat.le_refl _) hlc hcm)
  clear w0 h
  by_cases hn : len0 ≤ 1048576
  rotate_left
  · go_enter Try.func11, Try.ntmps11
    go_wp2_with fail
    go_ret
    exact ⟨rfl, Below.refl _ _⟩
  go_enter Try.func11, Try.ntmps11
  go_wp2_with fail
  refine HD.out.mono ?_
  rintro e w1 ⟨v, l, v', t, rfl, ⟨A1, n1, c1, rfl, hr1⟩, ⟨A2, n2, c2, rfl, hr2⟩, hb⟩
  have HB := Lib.hid hb
  have HR1 := Lib.hid hr1
  have HR2 := Lib.hid hr2
  clear hb hr1 hr2 HD
  have HC := Lib.hid (cM_PairParts HR1.out HR2.out)
  go_wp2_with fail
  refine HC.out.mono ?_
  rintro e w2 ⟨rfl, hb⟩
  replace HB := Lib.hid (bl_step HB.out hb)
  replace HR1 := Lib.hid (HR1.out.step hb)
  replace HR2 := Lib.hid (HR2.out.step hb)
  clear hb HC
  have HC := Lib.hid (cN_PairParts HR1.out HR2.out)
  go_wp2_with fail
  refine HC.out.mono ?_
  rintro e w3 ⟨rfl, hb⟩
  replace HB := Lib.hid (bl_step HB.out hb)
  replace HR1 := Lib.hid (HR1.out.step hb)
  replace HR2 := Lib.hid (HR2.out.step hb)
  clear hb HC
  by_cases hk : prtB l t = true
  rotate_left
  · have hk0 : prtB l t = false := by simpa using hk
    rw [hk0]
    clear hk hk0
    go_wp2
    go_ret
    exact ⟨rfl, HB.out⟩
  obtain ⟨hring, x, y, z, u, rfl, f4, hp⟩ := prt_told hk
  rw [hk]
  have hn2 := HR2.out.len
  simp at hn2
  subst hn2
  have E1 := Lib.hid (three_in hring f4.mx f4.mz f4.my f4.xz f4.yz.symm f4.xy)
  have E2 := Lib.hid (three_in hring f4.mx f4.mu f4.my f4.xu f4.yu.symm f4.xy)
  have E3 : Hid ((has3 l [x, z, y] != has3 l [x, u, y]) = true) := by
    have h := hp
    unfold partB at h
    simp only [List.getD_cons_zero, List.getD_cons_succ] at h
    exact h
  clear hk hring f4 hp
  generalize has3 l [x, z, y] = g1 at *
  generalize has3 l [x, u, y] = g2 at *
  obtain ⟨b, o, e, hbG, hcs⟩ := HR2.out.at_ (by omega)
  subst e
  have c0 := hcs 0 (by omega)
  have c1' := hcs 1 (by omega)
  have c2' := hcs 2 (by omega)
  have c3 := hcs 3 (by omega)
  simp only [Nat.add_zero, List.getD_cons_zero, List.getD_cons_succ] at c0 c1' c2' c3
  clear hcs
  have HK := Lib.hid (fun (V : World) (hV : Below w3.heap.size w3 V) => (⟨(hV.cell (p := ⟨b, o, none⟩) hbG).trans c0, (hV.cell (p := ⟨b, o + 1, none⟩) hbG).trans c1', (hV.cell (p := ⟨b, o + 2, none⟩) hbG).trans c2', (hV.cell (p := ⟨b, o + 3, none⟩) hbG).trans c3⟩ : _ ∧ _ ∧ _ ∧ _))
  have HBB := Lib.hid HB.out

  have hl1 := fun V => lit_rw V [x, z, y] (by simp)
  have hl2 := fun V => lit_rw V [x, u, y] (by simp)
  simp only [ints, List.map_cons, List.map_nil, List.length_cons, List.length_nil] at hl1 hl2
  have HA := Lib.hid (fun (V : World) (hV : Below w3.heap.size w3 V) => HR1.out.step hV)
  have b1 : Below w3.heap.size w3 ((w3.alloc (.cells #[.int .i64 x, .int .i64 z, .int .i64 y] 3)).drew) := ((Below.refl _ _).alloc (Nat.le_refl _) _).drew
  have b2 : Below w3.heap.size w3 (((w3.alloc (.cells #[.int .i64 x, .int .i64 z, .int .i64 y] 3)).alloc (.cells #[.int .i64 x, .int .i64 u, .int .i64 y] 3)).drew) := (((Below.refl _ _).alloc (Nat.le_refl _) _).alloc (by simp) _).drew
  have b3 : Below w3.heap.size w3 (((w3.alloc (.cells #[.int .i64 x, .int .i64 u, .int .i64 y] 3)).alloc (.cells #[.int .i64 x, .int .i64 z, .int .i64 y] 3)).drew) := (((Below.refl _ _).alloc (Nat.le_refl _) _).alloc (by simp) _).drew
  have r1 : Rw ((w3.alloc (.cells #[.int .i64 x, .int .i64 z, .int .i64 y] 3)).drew) (some ⟨w3.heap.size, 0, none⟩) 3 3 [x, z, y] := hl1 w3
  have r2 : Rw (((w3.alloc (.cells #[.int .i64 x, .int .i64 z, .int .i64 y] 3)).alloc (.cells #[.int .i64 x, .int .i64 u, .int .i64 y] 3)).drew) (some ⟨w3.heap.size, 0, none⟩) 3 3 [x, z, y] := (hl1 w3).step ((Below.refl _ _).alloc (Nat.le_refl _) _).drew
  have r3 : Rw (((w3.alloc (.cells #[.int .i64 x, .int .i64 u, .int .i64 y] 3)).alloc (.cells #[.int .i64 x, .int .i64 z, .int .i64 y] 3)).drew) (some ⟨w3.heap.size + 1, 0, none⟩) 3 3 [x, z, y] := by have h := hl1 (w3.alloc (.cells #[.int .i64 x, .int .i64 u, .int .i64 y] 3)); rwa [show (w3.alloc (.cells #[.int .i64 x, .int .i64 u, .int .i64 y] 3)).heap.size = w3.heap.size + 1 by simp] at h
  have q2 : Rw (((w3.alloc (.cells #[.int .i64 x, .int .i64 z, .int .i64 y] 3)).alloc (.cells #[.int .i64 x, .int .i64 u, .int .i64 y] 3)).drew) (some ⟨w3.heap.size + 1, 0, none⟩) 3 3 [x, u, y] := by have h := hl2 (w3.alloc (.cells #[.int .i64 x, .int .i64 z, .int .i64 y] 3)); rwa [show (w3.alloc (.cells #[.int .i64 x, .int .i64 z, .int .i64 y] 3)).heap.size = w3.heap.size + 1 by simp] at h
  have q3 : Rw (((w3.alloc (.cells #[.int .i64 x, .int .i64 u, .int .i64 y] 3)).alloc (.cells #[.int .i64 x, .int .i64 z, .int .i64 y] 3)).drew) (some ⟨w3.heap.size, 0, none⟩) 3 3 [x, u, y] := (hl2 w3).step ((Below.refl _ _).alloc (Nat.le_refl _) _).drew
  have hc1 := cM_ThreeIn (HA.out _ b1) r1
  have hc2 := cM_ThreeIn (HA.out _ b2) r2
  have hc3 := cM_ThreeIn (HA.out _ b3) r3
  rw [E1.out] at hc1 hc2 hc3
  have HC1 := Lib.hid hc1
  have HC2 := Lib.hid hc2
  have HC3 := Lib.hid hc3
  have HD1 := Lib.hid (fun (W : World) (hW : Below w3.heap.size w3 W) => by
    have h := cM_ThreeIn ((HA.out W hW).step ((Below.refl _ _).alloc (Nat.le_refl _) (.cells #[.int .i64 x, .int .i64 u, .int .i64 y] 3))) (hl2 W)
    rw [E2.out] at h
    exact h)
  have HD2 := Lib.hid (fun (W : World) (hW : Below (((w3.alloc (.cells #[.int .i64 x, .int .i64 z, .int .i64 y] 3)).alloc (.cells #[.int .i64 x, .int .i64 u, .int .i64 y] 3)).drew).heap.size (((w3.alloc (.cells #[.int .i64 x, .int .i64 z, .int .i64 y] 3)).alloc (.cells #[.int .i64 x, .int .i64 u, .int .i64 y] 3)).drew) W) => by
    have h := cM_ThreeIn (HA.out W (b2.trans (hW.mono b2.size))) (q2.step hW)
    rw [E2.out] at h
    exact h)
  have HD3 := Lib.hid (fun (W : World) (hW : Below (((w3.alloc (.cells #[.int .i64 x, .int .i64 u, .int .i64 y] 3)).alloc (.cells #[.int .i64 x, .int .i64 z, .int .i64 y] 3)).drew).heap.size (((w3.alloc (.cells #[.int .i64 x, .int .i64 u, .int .i64 y] 3)).alloc (.cells #[.int .i64 x, .int .i64 z, .int .i64 y] 3)).drew) W) => by
    have h := cM_ThreeIn (HA.out W (b3.trans (hW.mono b3.size))) (q3.step hW)
    rw [E2.out] at h
    exact h)
  have B1 := Lib.hid b1
  have B2 := Lib.hid b2
  have B3 := Lib.hid b3
  clear c0 c1' c2' c3 HR1 HR2 HB hl1 hl2 b1 b2 b3 r1 r2 r3 q2 q3 hc1 hc2 hc3
  have HZ := Lib.hid (Below.refl w3.heap.size w3).drew
  go_wp2_with fail
  go_region_held3 (fun V => V.cell? ⟨b, o, none⟩ = some (.int .i64 x) ∧ V.cell? ⟨b, o + 1, none⟩ = some (.int .i64 y) ∧ V.cell? ⟨b, o + 2, none⟩ = some (.int .i64 z) ∧ V.cell? ⟨b, o + 3, none⟩ = some (.int .i64 u))
    (first
      | exact HK.out _ HZ.out
      | exact HK.out _ (HZ.out.alloc (Nat.le_refl _) _)
      | exact HK.out _ ((HZ.out.alloc (Nat.le_refl _) _).alloc (by simp) _)
      | exact HK.out _ H9.out
      | exact HK.out _ H8.out
      | exact HK.out _ (H8.out.alloc H8.out.size _))
    (first
      | (go_at_call 16; ((with_reducible refine (HD1.out w8 H81.out).mono ?_); rintro e w9 ⟨rfl, hb⟩); have H9 := Lib.hid ((H8.out.alloc H8.out.size (.cells #[.int .i64 x, .int .i64 u, .int .i64 y] 3)).trans (hb.mono (by have := H8.out.size; simp; omega))); clear hb)
      | (go_at_call 16; ((with_reducible refine (HD2.out w8 H82.out).mono ?_); rintro e w9 ⟨rfl, hb⟩); have H9 := Lib.hid (H8.out.trans (hb.mono H8.out.size)); clear hb)
      | (go_at_call 16; ((with_reducible refine (HD3.out w8 H83.out).mono ?_); rintro e w9 ⟨rfl, hb⟩); have H9 := Lib.hid (H8.out.trans (hb.mono H8.out.size)); clear hb)
      | (go_at_call 16; ((with_reducible refine HC1.out.mono ?_); rintro e w8 ⟨rfl, hb⟩); have H8 := Lib.hid (B1.out.trans (hb.mono B1.out.size)); have H81 := Lib.hid H8.out; clear hb)
      | (go_at_call 16; ((with_reducible refine HC2.out.mono ?_); rintro e w8 ⟨rfl, hb⟩); have H8 := Lib.hid (B2.out.trans (hb.mono B2.out.size)); have H82 := Lib.hid hb; clear hb)
      | (go_at_call 16; ((with_reducible refine HC3.out.mono ?_); rintro e w8 ⟨rfl, hb⟩); have H8 := Lib.hid (B3.out.trans (hb.mono B3.out.size)); have H83 := Lib.hid hb; clear hb))
  all_goals
    go_wp2
    go_ret
    exact ⟨by have h := E3.out; clear HC1 HC2 HC3 HD1 HD2 HD3 E1 E2; cases g1 <;> cases g2 <;> first | rfl | (simp at h), HBB.out.trans (H9.out.mono (by have := HBB.out.size; omega))⟩
end Go.Proofs.Ytamnacgclhaggaa
