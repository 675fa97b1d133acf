/- Parting goes both ways, and round both ways: the law FnParts. -/
import Derived.Test.YtamnacgclhaggaaDraw36
import Derived.Test.YtamnacgclhaggaaLawM
import Derived.Test.YtamnacgclhaggaaPqM
namespace Go.Proofs.Ytamnacgclhaggaa
open Go.ChangeShapes Go.WideShapes Go.ChangeAt Go.RowKit

set_option maxRecDepth 10000 in
set_option maxHeartbeats 4000000 in
theorem law_Parts (a0 : Option Addr) (len0 cap0 : Nat) (z0 : List Int) (w : World) (w0 : IsRow .u8 w a0 len0 cap0 z0) :
    Calls Try.prog 5 #[.slice a0 len0 cap0] w fun e w' => e = .returned (.bool true) ∧ Below w.heap.size w w' := by
  obtain ⟨h, hlc, hcm⟩ := byt_of_row w0
  have HD := Lib.hid (drawPairParts_any len0 cap0 w.heap.size a0 w h (Nat.le_refl _) hlc hcm)
  clear w0 h
  by_cases hn : len0 ≤ 1048576
  rotate_left
  · go_enter Try.func5, Try.ntmps5
    go_wp2_with fail
    go_ret
    exact ⟨rfl, Below.refl _ _⟩
  go_enter Try.func5, Try.ntmps5
  go_wp2_with fail
  refine HD.out.mono ?_
  rintro e w1 ⟨v, l, v', t, rfl, ⟨A1, n1, c1, rfl, hr1⟩, ⟨A2, n2, c2, rfl, hr2⟩, hb⟩
  have HB := Lib.hid hb
  have HR1 := Lib.hid hr1
  have HR2 := Lib.hid hr2
  clear hb hr1 hr2 HD
  have HC := Lib.hid (cM_PairParts HR1.out HR2.out)
  go_wp2_with fail
  refine HC.out.mono ?_
  rintro e w2 ⟨rfl, hb⟩
  replace HB := Lib.hid (bl_step HB.out hb)
  replace HR1 := Lib.hid (HR1.out.step hb)
  replace HR2 := Lib.hid (HR2.out.step hb)
  clear hb HC
  have HC := Lib.hid (cN_PairParts HR1.out HR2.out)
  go_wp2_with fail
  refine HC.out.mono ?_
  rintro e w3 ⟨rfl, hb⟩
  replace HB := Lib.hid (bl_step HB.out hb)
  replace HR1 := Lib.hid (HR1.out.step hb)
  replace HR2 := Lib.hid (HR2.out.step hb)
  clear hb HC
  by_cases hk : prtB l t = true
  rotate_left
  · have hk0 : prtB l t = false := by simpa using hk
    rw [hk0]
    clear hk hk0
    go_wp2
    go_ret
    exact ⟨rfl, HB.out⟩
  obtain ⟨hring, x, y, z, u, rfl, f4, hp⟩ := prt_told hk
  rw [hk]
  have hn2 := HR2.out.len
  simp at hn2
  subst hn2
  have E1 : Hid (prtB l [z, u, x, y] = true) := by rw [Hid, prt_of hring f4.swap, part_swap f4, hp]
  have E2 : Hid (prtB (backL l) [x, y, z, u] = true) := by rw [Hid, prt_of (backL_ring hring) (f4_back f4), part_back hring.1.2.2.2 f4, hp]
  have E3 : Hid (prtB l [x, z, y, u] = false) := by rw [Hid, prt_of hring f4.cross, part_cross f4 hp]
  have E4 : Hid (ringB l = true ∧ backR l = backL l) := ⟨ring_yes hring, by rw [backR, if_pos hring]⟩
  clear hk hring f4 hp
  have HC := Lib.hid (cM_RingBack HR1.out)
  rw [E4.out.1, E4.out.2] at HC
  go_wp2_with fail
  refine HC.out.mono ?_
  rintro e w4 ⟨v, rfl, ⟨A5, n5, c5, rfl, hr⟩, hb⟩
  replace HB := Lib.hid (bl_step HB.out hb)
  replace HR1 := Lib.hid (HR1.out.step hb)
  replace HR2 := Lib.hid (HR2.out.step hb)
  have HR5 := Lib.hid hr
  clear hr
  clear hb HC
  obtain ⟨b, o, e, hbG, hcs⟩ := HR2.out.at_ (by omega)
  subst e
  have c0 := hcs 0 (by omega)
  have c1' := hcs 1 (by omega)
  have c2' := hcs 2 (by omega)
  have c3 := hcs 3 (by omega)
  simp only [Nat.add_zero, List.getD_cons_zero, List.getD_cons_succ] at c0 c1' c2' c3
  clear hcs
  have HK := Lib.hid (fun (V : World) (hV : Below w4.heap.size w4 V) => (⟨(hV.cell (p := ⟨b, o, none⟩) hbG).trans c0, (hV.cell (p := ⟨b, o + 1, none⟩) hbG).trans c1', (hV.cell (p := ⟨b, o + 2, none⟩) hbG).trans c2', (hV.cell (p := ⟨b, o + 3, none⟩) hbG).trans c3⟩ : _ ∧ _ ∧ _ ∧ _))
  have HBB := Lib.hid HB.out

  have HC := Lib.hid (fun (V : World) (p q r t : Int) (hV : Below w4.heap.size w4 V) => cM_PairParts (w := V.alloc (.cells #[.int .i64 p, .int .i64 q, .int .i64 r, .int .i64 t] 3)) ((HR1.out.step hV).step ((Below.refl _ _).alloc (Nat.le_refl _) _)) (lit_rw V [p, q, r, t] (by simp)))
  have HCb := Lib.hid (fun (V : World) (hV : Below w4.heap.size w4 V) => cM_PairParts (HR5.out.step hV) (HR2.out.step hV))
  have HST := Lib.hid (fun (V V' : World) (p q r t : Int) (h1 : Below w4.heap.size w4 V) (h2 : Below (V.alloc (.cells #[.int .i64 p, .int .i64 q, .int .i64 r, .int .i64 t] 3)).heap.size (V.alloc (.cells #[.int .i64 p, .int .i64 q, .int .i64 r, .int .i64 t] 3)) V') => (h1.alloc h1.size (.cells #[.int .i64 p, .int .i64 q, .int .i64 r, .int .i64 t] 3)).trans (h2.mono (by have := h1.size; simp; omega)))
  simp only [ints, List.map_cons, List.map_nil, List.length_cons, List.length_nil] at HC
  clear c0 c1' c2' c3 HR1 HR2 HR5 HB E4
  have HZ := Lib.hid (Below.refl w4.heap.size w4).drew
  go_wp2_with fail
  go_region_held3 (fun V => V.cell? ⟨b, o, none⟩ = some (.int .i64 x) ∧ V.cell? ⟨b, o + 1, none⟩ = some (.int .i64 y) ∧ V.cell? ⟨b, o + 2, none⟩ = some (.int .i64 z) ∧ V.cell? ⟨b, o + 3, none⟩ = some (.int .i64 u))
    (first
      | exact HK.out _ HZ.out
      | exact HK.out _ (HZ.out.alloc (Nat.le_refl _) _)
      | exact HK.out _ H1.out
      | exact HK.out _ H2.out
      | exact HK.out _ (H2.out.alloc H2.out.size _)
      | exact HK.out _ H3.out)
    (first
      | (go_at_call_of 23 (Value.slice A1 n1 c1); refine (HC.out _ _ _ _ _ (by first | exact HZ.out | exact H2.out)).mono ?_; rintro e w8 ⟨rfl, hb⟩; first | (have H3 := Lib.hid (HST.out _ _ _ _ _ _ H2.out hb); clear hb; rw [E3.out]) | (have H1 := Lib.hid (HST.out _ _ _ _ _ _ HZ.out hb); clear hb; rw [E1.out]))
      | (go_at_call_of 23 (Value.slice A5 n5 c5); refine (HCb.out _ H1.out).mono ?_; rintro e w8 ⟨rfl, hb⟩; have H2 := Lib.hid (H1.out.trans (hb.mono H1.out.size)); clear hb; rw [E2.out]))
  all_goals
    go_wp2
    go_ret
    exact ⟨rfl, HBB.out.trans (H3.out.mono (by have := HBB.out.size; omega))⟩
end Go.Proofs.Ytamnacgclhaggaa
