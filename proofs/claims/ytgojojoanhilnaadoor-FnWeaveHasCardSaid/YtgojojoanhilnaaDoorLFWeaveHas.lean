/- Parts that are had are so without their last point: the law FnWeaveHas. -/
import Derived.Test.YtgojojoanhilnaaDoorDraw47
import Derived.Test.YtgojojoanhilnaaDoorLawWP
import Derived.Test.YtgojojoanhilnaaDoorWvDr
import Derived.Test.YtgojojoanhilnaaDoorApC
namespace Go.Proofs.YtgojojoanhilnaaDoor
open Go.ChangeShapes Go.WideShapes Go.ChangeAt Go.RowKit

attribute [local go_sem ↓] apC_fold in
set_option maxRecDepth 10000 in
set_option maxHeartbeats 4000000 in
theorem law_WeaveHas (a0 : Option Addr) (len0 cap0 : Nat) (z0 : List Int) (w : World) (w0 : IsRow .u8 w a0 len0 cap0 z0) (hTAB : Tab w) :
    Calls Tryd.prog 4 #[.slice a0 len0 cap0] w fun e w' => e = .returned (.bool true) ∧ Below w.heap.size w w' := by
  obtain ⟨h, hlc, hcm⟩ := byt_of_row w0
  have HD := Lib.hid (drawWeaveHas_any len0 cap0 w.heap.size a0 w h (Nat.le_refl _) hlc hcm)
  clear w0 h
  by_cases hn : len0 ≤ 1048576
  rotate_left
  · go_enter Tryd.func4, Tryd.ntmps4
    go_wp2_with fail
    go_ret
    exact ⟨rfl, Below.refl _ _⟩
  go_enter Tryd.func4, Tryd.ntmps4
  go_wp2_with fail
  refine HD.out.mono ?_
  rintro e w1 ⟨v, v', l, p, rfl, ⟨A1, n1, c1, rfl, hr1⟩, ⟨A2, n2, c2, rfl, hr2⟩, hb⟩
  have HB := Lib.hid hb
  have HR1 := Lib.hid hr1
  have HR2 := Lib.hid hr2
  have HRT := Lib.hid (hTAB.step hb)
  clear hTAB
  clear hb hr1 hr2 HD
  have HC := Lib.hid (cI_WeaveHasP (.of HR1.out) HR2.out HRT.out)
  go_wp2_with fail
  refine HC.out.mono ?_
  rintro e w2 ⟨rfl, hb⟩
  replace HB := Lib.hid (bl_step HB.out hb)
  replace HR1 := Lib.hid (HR1.out.step hb)
  replace HR2 := Lib.hid (HR2.out.step hb)
  replace HRT := Lib.hid (HRT.out.step hb)
  clear hb HC
  have HC := Lib.hid (cS_WeaveHasP (.of HR1.out) HR2.out)
  go_wp2_with fail
  refine HC.out.mono ?_
  rintro e w3 ⟨rfl, hb⟩
  replace HB := Lib.hid (bl_step HB.out hb)
  replace HR1 := Lib.hid (HR1.out.step hb)
  replace HR2 := Lib.hid (HR2.out.step hb)
  replace HRT := Lib.hid (HRT.out.step hb)
  clear hb HC
  by_cases hk : whB l p = true
  rotate_left
  · rw [(by simpa using hk : whB l p = false)]
    clear hk
    go_wp2
    go_ret
    exact ⟨rfl, HB.out⟩
  obtain ⟨hring, hp6, hp1, htk, hbk, hrb⟩ := whas_told hk
  rw [hk]
  have hl2 := HR2.out.len
  rw [hl2] at hp6 hp1 htk hbk
  have HTK := Lib.hid htk
  have HBK := Lib.hid hbk
  have E4 : Hid (ringB l = true ∧ backR l = backL l) := ⟨ring_yes hring, hrb⟩
  clear hk hring htk hbk hrb
  have HC := Lib.hid (cW_RingBack HR1.out)
  rw [E4.out.1, E4.out.2] at HC
  go_wp2_with fail
  refine HC.out.mono ?_
  rintro e w4 ⟨v, rfl, ⟨A5, n5, c5, rfl, hr⟩, hb⟩
  replace HB := Lib.hid (bl_step HB.out hb)
  replace HR1 := Lib.hid (HR1.out.step hb)
  replace HR2 := Lib.hid (HR2.out.step hb)
  replace HRT := Lib.hid (HRT.out.step hb)
  have HR5 := Lib.hid hr
  clear hr
  clear hb HC
  have HBF := Lib.hid HB.out
  have HCb := Lib.hid (fun (V : World) (hV : Below w4.heap.size w4 V) => cI_WeaveHasP (.of (HR5.out.step hV)) (HR2.out.step hV) (HRT.out.step hV))
  rw [HBK.out] at HCb
  obtain ⟨b2, o2, e2, hb2, hcs⟩ := HR2.out.rd.at_ (show 0 < n2 by omega)
  subst e2
  have HCS := Lib.hid hcs
  have HR1F := Lib.hid (fun (V : World) (hV : Below w4.heap.size w4 V) => HR1.out.step hV)
  have HRTF := Lib.hid (fun (V : World) (hV : Below w4.heap.size w4 V) => HRT.out.step hV)
  have hln2 := HR2.out.len
  have hmx2 := HR2.out.2.2.1
  have hmc2 := HR2.out.2.1
  clear HR1 HR2 HR5 HRT HB HBK E4 hcs
  obtain rfl | rfl | rfl | rfl | rfl | rfl : n2 = 1 ∨ n2 = 2 ∨ n2 = 3 ∨ n2 = 4 ∨ n2 = 5 ∨ n2 = 6 := by omega
  · rw [show decide (1 ≤ 2) = true from rfl] at HCb
    have HC := Lib.hid (HCb.out _ (Below.refl _ _))
    clear HCb HTK HR1F HRTF HCS
    go_wp2_with (go_at_call 12; refine HC.out.mono ?_; rintro e w9 ⟨rfl, hb⟩; have HB9 := Lib.hid (bl_step HBF.out hb); clear hb)
    go_ret
    exact ⟨rfl, HB9.out⟩
  · have HT := Lib.hid (HTK.out (by omega))
    obtain ⟨v6, w6, r6, hv6, hg6⟩ := apC_run (V := w4) (g := b2) (o := o2) (z := 1) (cv := c2) (l := p.take 1) (by rw [List.length_take, hln2]; rfl) (by omega) (fun j u hu => by
      have hj := (List.getElem?_eq_some_iff.1 hu).1
      simp only [ints, List.length_map, List.length_take, hln2] at hj
      rw [ints, List.getElem?_map, List.getElem?_take, if_pos (by omega)] at hu
      have e3 := HCS.out j (by omega)
      rw [Addr.add_lit, World.cell?_of_block (a := ⟨b2, o2 + j, none⟩) (Below.heap_alloc w4 _ b2 hb2), e3]
      rw [List.getD]
      cases hq : p[j]? with
      | none => rw [hq] at hu; cases hu
      | some y => rw [hq] at hu; simpa using hu)
    have r8 : ∀ ty, (apC #[23, 23] ty #[.slice (some ⟨w4.heap.size, 0, none⟩) 0 0, .slice (some ⟨b2, o2, none⟩) 1 c2]).run Tryd.prog (w4.alloc (.cells #[] 3)) = .ok v6 w6 := by simpa using r6
    obtain ⟨hgv, A6, c6, e6, hc6, hcm6⟩ := hv6
    have hlt6 : (p.take 1).length = 1 := by rw [List.length_take, hln2]; rfl
    have hrd := hgv
    subst e6
    have hrd2 := hrd.rd.2
    rw [hlt6] at hc6 hrd2 r8
    have HB6 : Hid (Below w4.heap.size w4 w6) := ⟨hg6.os, hg6.tape, hg6.output, by have := hg6.size; simp at this; omega, fun z hz => (hg6.block z (by simp; omega) (fun e => by have := Option.some.inj e; omega)).trans (Below.heap_alloc w4 _ z hz)⟩
    have HW1 := Lib.hid (cI_WeaveHasP (.of (HR1F.out _ HB6.out)) (⟨hrd2, hc6, hcm6, by omega⟩ : RwP w6 A6 1 c6 (p.take 1)) (HRTF.out _ HB6.out))
    have HTT := HT.out
    simp only [Nat.reduceSub] at HTT
    rw [HTT] at HW1
    rw [show decide (2 ≤ 2) = true from rfl] at HCb
    clear r6 hgv hrd hrd2 hg6 HT HTT HTK HR1F HRTF HCS
    go_wp2_with (first
      | (go_at_call_of 12 (Value.slice A1 n1 c1); refine HW1.out.mono ?_; rintro e w9 ⟨rfl, hb⟩; have H1 := Lib.hid (bl_step HB6.out hb); clear hb)
      | (go_at_call_of 12 (Value.slice A5 n5 c5); refine (HCb.out _ H1.out).mono ?_; rintro e w10 ⟨rfl, hb⟩; have HB9 := Lib.hid (bl_step HBF.out (bl_step H1.out hb)); clear hb))
    go_ret
    exact ⟨rfl, HB9.out⟩
  · have HT := Lib.hid (HTK.out (by omega))
    obtain ⟨v6, w6, r6, hv6, hg6⟩ := apC_run (V := w4) (g := b2) (o := o2) (z := 2) (cv := c2) (l := p.take 2) (by rw [List.length_take, hln2]; rfl) (by omega) (fun j u hu => by
      have hj := (List.getElem?_eq_some_iff.1 hu).1
      simp only [ints, List.length_map, List.length_take, hln2] at hj
      rw [ints, List.getElem?_map, List.getElem?_take, if_pos (by omega)] at hu
      have e3 := HCS.out j (by omega)
      rw [Addr.add_lit, World.cell?_of_block (a := ⟨b2, o2 + j, none⟩) (Below.heap_alloc w4 _ b2 hb2), e3]
      rw [List.getD]
      cases hq : p[j]? with
      | none => rw [hq] at hu; cases hu
      | some y => rw [hq] at hu; simpa using hu)
    have r8 : ∀ ty, (apC #[23, 23] ty #[.slice (some ⟨w4.heap.size, 0, none⟩) 0 0, .slice (some ⟨b2, o2, none⟩) 2 c2]).run Tryd.prog (w4.alloc (.cells #[] 3)) = .ok v6 w6 := by simpa using r6
    obtain ⟨hgv, A6, c6, e6, hc6, hcm6⟩ := hv6
    have hlt6 : (p.take 2).length = 2 := by rw [List.length_take, hln2]; rfl
    have hrd := hgv
    subst e6
    have hrd2 := hrd.rd.2
    rw [hlt6] at hc6 hrd2 r8
    have HB6 : Hid (Below w4.heap.size w4 w6) := ⟨hg6.os, hg6.tape, hg6.output, by have := hg6.size; simp at this; omega, fun z hz => (hg6.block z (by simp; omega) (fun e => by have := Option.some.inj e; omega)).trans (Below.heap_alloc w4 _ z hz)⟩
    have HW1 := Lib.hid (cI_WeaveHasP (.of (HR1F.out _ HB6.out)) (⟨hrd2, hc6, hcm6, by omega⟩ : RwP w6 A6 2 c6 (p.take 2)) (HRTF.out _ HB6.out))
    have HTT := HT.out
    simp only [Nat.reduceSub] at HTT
    rw [HTT] at HW1
    rw [show decide (3 ≤ 2) = false from rfl] at HCb
    clear r6 hgv hrd hrd2 hg6 HT HTT HTK HR1F HRTF HCS
    go_wp2_with (first
      | (go_at_call_of 12 (Value.slice A1 n1 c1); refine HW1.out.mono ?_; rintro e w9 ⟨rfl, hb⟩; have H1 := Lib.hid (bl_step HB6.out hb); clear hb)
      | (go_at_call_of 12 (Value.slice A5 n5 c5); refine (HCb.out _ H1.out).mono ?_; rintro e w10 ⟨rfl, hb⟩; have HB9 := Lib.hid (bl_step HBF.out (bl_step H1.out hb)); clear hb))
    go_ret
    exact ⟨rfl, HB9.out⟩
  · have HT := Lib.hid (HTK.out (by omega))
    obtain ⟨v6, w6, r6, hv6, hg6⟩ := apC_run (V := w4) (g := b2) (o := o2) (z := 3) (cv := c2) (l := p.take 3) (by rw [List.length_take, hln2]; rfl) (by omega) (fun j u hu => by
      have hj := (List.getElem?_eq_some_iff.1 hu).1
      simp only [ints, List.length_map, List.length_take, hln2] at hj
      rw [ints, List.getElem?_map, List.getElem?_take, if_pos (by omega)] at hu
      have e3 := HCS.out j (by omega)
      rw [Addr.add_lit, World.cell?_of_block (a := ⟨b2, o2 + j, none⟩) (Below.heap_alloc w4 _ b2 hb2), e3]
      rw [List.getD]
      cases hq : p[j]? with
      | none => rw [hq] at hu; cases hu
      | some y => rw [hq] at hu; simpa using hu)
    have r8 : ∀ ty, (apC #[23, 23] ty #[.slice (some ⟨w4.heap.size, 0, none⟩) 0 0, .slice (some ⟨b2, o2, none⟩) 3 c2]).run Tryd.prog (w4.alloc (.cells #[] 3)) = .ok v6 w6 := by simpa using r6
    obtain ⟨hgv, A6, c6, e6, hc6, hcm6⟩ := hv6
    have hlt6 : (p.take 3).length = 3 := by rw [List.length_take, hln2]; rfl
    have hrd := hgv
    subst e6
    have hrd2 := hrd.rd.2
    rw [hlt6] at hc6 hrd2 r8
    have HB6 : Hid (Below w4.heap.size w4 w6) := ⟨hg6.os, hg6.tape, hg6.output, by have := hg6.size; simp at this; omega, fun z hz => (hg6.block z (by simp; omega) (fun e => by have := Option.some.inj e; omega)).trans (Below.heap_alloc w4 _ z hz)⟩
    have HW1 := Lib.hid (cI_WeaveHasP (.of (HR1F.out _ HB6.out)) (⟨hrd2, hc6, hcm6, by omega⟩ : RwP w6 A6 3 c6 (p.take 3)) (HRTF.out _ HB6.out))
    have HTT := HT.out
    simp only [Nat.reduceSub] at HTT
    rw [HTT] at HW1
    rw [show decide (4 ≤ 2) = false from rfl] at HCb
    clear r6 hgv hrd hrd2 hg6 HT HTT HTK HR1F HRTF HCS
    go_wp2_with (first
      | (go_at_call_of 12 (Value.slice A1 n1 c1); refine HW1.out.mono ?_; rintro e w9 ⟨rfl, hb⟩; have H1 := Lib.hid (bl_step HB6.out hb); clear hb)
      | (go_at_call_of 12 (Value.slice A5 n5 c5); refine (HCb.out _ H1.out).mono ?_; rintro e w10 ⟨rfl, hb⟩; have HB9 := Lib.hid (bl_step HBF.out (bl_step H1.out hb)); clear hb))
    go_ret
    exact ⟨rfl, HB9.out⟩
  · have HT := Lib.hid (HTK.out (by omega))
    obtain ⟨v6, w6, r6, hv6, hg6⟩ := apC_run (V := w4) (g := b2) (o := o2) (z := 4) (cv := c2) (l := p.take 4) (by rw [List.length_take, hln2]; rfl) (by omega) (fun j u hu => by
      have hj := (List.getElem?_eq_some_iff.1 hu).1
      simp only [ints, List.length_map, List.length_take, hln2] at hj
      rw [ints, List.getElem?_map, List.getElem?_take, if_pos (by omega)] at hu
      have e3 := HCS.out j (by omega)
      rw [Addr.add_lit, World.cell?_of_block (a := ⟨b2, o2 + j, none⟩) (Below.heap_alloc w4 _ b2 hb2), e3]
      rw [List.getD]
      cases hq : p[j]? with
      | none => rw [hq] at hu; cases hu
      | some y => rw [hq] at hu; simpa using hu)
    have r8 : ∀ ty, (apC #[23, 23] ty #[.slice (some ⟨w4.heap.size, 0, none⟩) 0 0, .slice (some ⟨b2, o2, none⟩) 4 c2]).run Tryd.prog (w4.alloc (.cells #[] 3)) = .ok v6 w6 := by simpa using r6
    obtain ⟨hgv, A6, c6, e6, hc6, hcm6⟩ := hv6
    have hlt6 : (p.take 4).length = 4 := by rw [List.length_take, hln2]; rfl
    have hrd := hgv
    subst e6
    have hrd2 := hrd.rd.2
    rw [hlt6] at hc6 hrd2 r8
    have HB6 : Hid (Below w4.heap.size w4 w6) := ⟨hg6.os, hg6.tape, hg6.output, by have := hg6.size; simp at this; omega, fun z hz => (hg6.block z (by simp; omega) (fun e => by have := Option.some.inj e; omega)).trans (Below.heap_alloc w4 _ z hz)⟩
    have HW1 := Lib.hid (cI_WeaveHasP (.of (HR1F.out _ HB6.out)) (⟨hrd2, hc6, hcm6, by omega⟩ : RwP w6 A6 4 c6 (p.take 4)) (HRTF.out _ HB6.out))
    have HTT := HT.out
    simp only [Nat.reduceSub] at HTT
    rw [HTT] at HW1
    rw [show decide (5 ≤ 2) = false from rfl] at HCb
    clear r6 hgv hrd hrd2 hg6 HT HTT HTK HR1F HRTF HCS
    go_wp2_with (first
      | (go_at_call_of 12 (Value.slice A1 n1 c1); refine HW1.out.mono ?_; rintro e w9 ⟨rfl, hb⟩; have H1 := Lib.hid (bl_step HB6.out hb); clear hb)
      | (go_at_call_of 12 (Value.slice A5 n5 c5); refine (HCb.out _ H1.out).mono ?_; rintro e w10 ⟨rfl, hb⟩; have HB9 := Lib.hid (bl_step HBF.out (bl_step H1.out hb)); clear hb))
    go_ret
    exact ⟨rfl, HB9.out⟩
  · have HT := Lib.hid (HTK.out (by omega))
    obtain ⟨v6, w6, r6, hv6, hg6⟩ := apC_run (V := w4) (g := b2) (o := o2) (z := 5) (cv := c2) (l := p.take 5) (by rw [List.length_take, hln2]; rfl) (by omega) (fun j u hu => by
      have hj := (List.getElem?_eq_some_iff.1 hu).1
      simp only [ints, List.length_map, List.length_take, hln2] at hj
      rw [ints, List.getElem?_map, List.getElem?_take, if_pos (by omega)] at hu
      have e3 := HCS.out j (by omega)
      rw [Addr.add_lit, World.cell?_of_block (a := ⟨b2, o2 + j, none⟩) (Below.heap_alloc w4 _ b2 hb2), e3]
      rw [List.getD]
      cases hq : p[j]? with
      | none => rw [hq] at hu; cases hu
      | some y => rw [hq] at hu; simpa using hu)
    have r8 : ∀ ty, (apC #[23, 23] ty #[.slice (some ⟨w4.heap.size, 0, none⟩) 0 0, .slice (some ⟨b2, o2, none⟩) 5 c2]).run Tryd.prog (w4.alloc (.cells #[] 3)) = .ok v6 w6 := by simpa using r6
    obtain ⟨hgv, A6, c6, e6, hc6, hcm6⟩ := hv6
    have hlt6 : (p.take 5).length = 5 := by rw [List.length_take, hln2]; rfl
    have hrd := hgv
    subst e6
    have hrd2 := hrd.rd.2
    rw [hlt6] at hc6 hrd2 r8
    have HB6 : Hid (Below w4.heap.size w4 w6) := ⟨hg6.os, hg6.tape, hg6.output, by have := hg6.size; simp at this; omega, fun z hz => (hg6.block z (by simp; omega) (fun e => by have := Option.some.inj e; omega)).trans (Below.heap_alloc w4 _ z hz)⟩
    have HW1 := Lib.hid (cI_WeaveHasP (.of (HR1F.out _ HB6.out)) (⟨hrd2, hc6, hcm6, by omega⟩ : RwP w6 A6 5 c6 (p.take 5)) (HRTF.out _ HB6.out))
    have HTT := HT.out
    simp only [Nat.reduceSub] at HTT
    rw [HTT] at HW1
    rw [show decide (6 ≤ 2) = false from rfl] at HCb
    clear r6 hgv hrd hrd2 hg6 HT HTT HTK HR1F HRTF HCS
    go_wp2_with (first
      | (go_at_call_of 12 (Value.slice A1 n1 c1); refine HW1.out.mono ?_; rintro e w9 ⟨rfl, hb⟩; have H1 := Lib.hid (bl_step HB6.out hb); clear hb)
      | (go_at_call_of 12 (Value.slice A5 n5 c5); refine (HCb.out _ H1.out).mono ?_; rintro e w10 ⟨rfl, hb⟩; have HB9 := Lib.hid (bl_step HBF.out (bl_step H1.out hb)); clear hb))
    go_ret
    exact ⟨rfl, HB9.out⟩
end Go.Proofs.YtgojojoanhilnaaDoor
