/- The laws' drawer of two rings: the two lists. -/
import Derived.Test.YtamnacgclhaggabDraw4
namespace Go.Proofs.Ytamnacgclhaggab
open Go.ChangeShapes Go.WideShapes Go.ChangeAt Go.RowKit

set_option maxRecDepth 10000 in
set_option maxHeartbeats 2000000 in
theorem two92_any (R n c H : Nat) (A : Option Addr) (w : World) (hR : RdAt w R A n c 0) (hb : Byt w H A n) (hH : H ≤ R) (hn : n ≤ 2000) (hRs : w.heap.size = R + 1) :
    Calls Try.prog 125 #[.pointer (some ⟨R, 0, none⟩), .int .i64 7] w fun e w' => ∃ v v' l l' q, e = .returned (.tuple #[v, v']) ∧ RowV w' (R + 1) v l ∧ RowV w' (R + 1) v' l' ∧ (l.length ≤ 7 ∧ l'.length ≤ 7) ∧ (RdAt w' R A n c q ∧ q ≤ 100) ∧ Below R w w' := by
  have HS := Lib.hid (size91_any R n c H 0 7 A w hR hb hH (by omega) hn (by omega) (by omega))
  have HO := Lib.hid (fun V q k (h1 : RdAt V R A n c q) (h2 : Byt V H A n) (h3 : q ≤ 90000) (h4 : 1 ≤ k) (h5 : k ≤ 7) => of91_any R n c H q k A V h1 h2 hH h3 hn h4 h5)
  have HP := Lib.hid (fun V q k (h1 : RdAt V R A n c q) (h2 : Byt V H A n) (h3 : q ≤ 100000) (h4 : 1 ≤ k) (h5 : k ≤ 1000) => pick_any R n c H q k A V h1 h2 hH h3 hn h4 h5)
  have HRG := Lib.hid (fun V q (h1 : RdAt V R A n c q) (h2 : Byt V H A n) (h3 : q ≤ 80000) => ring91_any R n c H q 7 A V h1 h2 hH h3 hn (by omega) (by omega))
  have HB0 := Lib.hid hb
  have hs0 : R < w.heap.size := by omega
  have HBW : Hid (∀ V, w.grownBy V (some R) → Below R w V) := fun V hV => (Below.refl R w).grown hV (by omega) (by intro k hk; have e : R = k := Option.some.inj hk; omega)
  clear hR hb
  go_enter Try.func125, Try.ntmps125
  go_wp2_with fail
  refine HS.out.mono ?_
  rintro e w1 ⟨⟨sz, hs3, hsm, rfl⟩, h1, h2, h3⟩
  have HB1 := Lib.hid (HB0.out.grown h2 hH)
  have HO1 := Lib.hid (HO.out w1 (0 + 1) sz h1 HB1.out (by omega) (by omega) (by omega))
  have HG1 := Lib.hid h2
  have hz1 : w1.heap.size = R + 1 := by omega
  clear h1 h2 h3 HS
  go_wp2_with fail
  refine HO1.out.mono ?_
  rintro e w2 ⟨v, l, q, rfl, ho, ⟨hl, h1, hq⟩, h2⟩
  subst hl
  have HB2 := Lib.hid (HB1.out.grown h2 hH)
  have HG2 := Lib.hid (grown_trans HG1.out h2)
  have HR2 := Lib.hid h1
  have HV2 : Hid (RowV w2 (R + 1) v l) := by have := ho.rowV5; rw [hz1] at this; exact this
  have hs2 : w1.heap.size ≤ w2.heap.size := h2.size
  clear h1 h2 HO1 ho HB0 HB1 HG1
  have HP2 := Lib.hid (HP.out w2 q 24 HR2.out HB2.out (by omega) (by omega) (by omega))
  go_wp2_with fail
  refine HP2.out.mono ?_
  rintro e w3 ⟨⟨v3, hv3, rfl⟩, h1, h2, h3⟩
  have HB3 := Lib.hid (HB2.out.grown h2 hH)
  have HG3 := Lib.hid (grown_trans HG2.out h2)
  have HR3 := Lib.hid h1
  have HV3 := Lib.hid (HV2.out.grown5 h2 (by omega))
  have hz3 : R + 1 ≤ w3.heap.size := by omega
  clear h1 h2 h3 HP2 HB2 HG2 HR2 HV2
  by_cases e0 : v3 = 0
  · have hb0 : ((v3 : Int) == 0) = true := by simp; omega
    clear e0 hv3
    have HR' := Lib.hid (HRG.out w3 (q + 1) HR3.out HB3.out (by omega))
    go_wp2_with fail
    refine HR'.out.mono ?_
    rintro e w4 ⟨v', l', q', rfl, ho', ⟨hl', h1, hq'⟩, h2⟩
    have HG4 := Lib.hid (HBW.out _ (grown_trans HG3.out h2))
    have HV4 := Lib.hid (HV3.out.grown5 h2 (by omega))
    have HV' := Lib.hid (ho'.less hz3)
    have HR4 := Lib.hid h1
    clear h1 h2 ho' HR'
    go_wp2
    go_ret2
    exact ⟨_, _, l, l', _, rfl, HV4.out, HV'.out, ⟨by omega, hl'⟩, ⟨HR4.out, by omega⟩, HG4.out⟩
  · have hb0 : ((v3 : Int) == 0) = false := by simp; omega
    clear e0 hv3
    have HO3 := Lib.hid (HO.out w3 (q + 1) l.length HR3.out HB3.out (by omega) (by omega) (by omega))
    go_wp2_with fail
    refine HO3.out.mono ?_
    rintro e w4 ⟨v', l', q', rfl, ho', ⟨hl', h1, hq'⟩, h2⟩
    have HB4 := Lib.hid (HB3.out.grown h2 hH)
    have HG4 := Lib.hid (grown_trans HG3.out h2)
    have HV4 := Lib.hid (HV3.out.grown5 h2 (by omega))
    have HV' : Hid (RowV w4 (R + 1) v' l') := ho'.rowV5.less hz3
    have hs4 := h2.size
    have HP4 := Lib.hid (HP.out w4 q' 4 h1 HB4.out (by omega) (by omega) (by omega))
    clear h1 h2 HO3 ho' HG3 HV3 HB3 HR3
    go_wp2_with fail
    refine HP4.out.mono ?_
    rintro e w5 ⟨⟨v5, hv5, rfl⟩, h1, h2, h3⟩
    have HB5 := Lib.hid (HB4.out.grown h2 hH)
    have HG5 := Lib.hid (grown_trans HG4.out h2)
    have HR5 := Lib.hid h1
    have HV5 := Lib.hid (HV4.out.grown5 h2 (by omega))
    have HV5' := Lib.hid (HV'.out.grown5 h2 (by omega))
    have hz5 : R + 1 ≤ w5.heap.size := by omega
    clear h1 h2 h3 HP4 HB4 HG4 HV4 HV'
    by_cases e5 : v5 = 0
    · have hb5 : ((v5 : Int) == 0) = true := by simp; omega
      clear e5 hv5
      have HP5 := Lib.hid (HP.out w5 (q' + 1) l.length HR5.out HB5.out (by omega) (by omega) (by omega))
      go_wp2_with fail
      refine HP5.out.mono ?_
      rintro e w6 ⟨⟨v6, hv6, rfl⟩, h1, h2, h3⟩
      have HG6 := Lib.hid (HBW.out _ (grown_trans HG5.out h2))
      have HV6 := Lib.hid (HV5.out.grown5 h2 (by omega))
      have hz6 : R + 1 ≤ w6.heap.size := by omega
      obtain ⟨Av, cv, e, hcv1, hcv2⟩ := HV6.out.2
      have hrd := (show RowV w6 (R + 1) (.slice Av l.length cv) l by rw [← e]; exact HV6.out).1.rd.2
      subst e
      have HSW := Lib.hid (swap5_any Av l.length cv w6.heap.size l (v6 : Int) w6 hrd (Nat.le_refl _) (by omega) (by omega))
      have HR6 := Lib.hid h1
      have hR6 := h1.lt
      clear h1 h2 h3 HP5 hrd
      go_wp2_with fail
      refine HSW.out.mono ?_
      rintro e w7 ⟨v7, l7, rfl, ho7, hl7, hb7⟩
      have HV7 := Lib.hid (HV6.out.below5 hb7)
      have HV7' : Hid (RowV w7 (R + 1) v7 l7) := ho7.rowV5.less hz6
      have HG7 := Lib.hid (HG6.out.trans (hb7.mono (by omega)))
      have HR7 := Lib.hid (HR6.out.same (hb7.block R hR6))
      clear ho7 hb7 HSW HG6
      go_wp2
      go_ret2
      exact ⟨_, _, l, l7, _, rfl, HV7.out, HV7'.out, ⟨by omega, by omega⟩, ⟨HR7.out, by omega⟩, HG7.out⟩
    · have hb5 : ((v5 : Int) == 0) = false := by simp; omega
      clear e5 hv5
      go_wp2
      go_ret2
      exact ⟨_, _, l, l', _, rfl, HV5.out, HV5'.out, ⟨by omega, by omega⟩, ⟨HR5.out, by omega⟩, HBW.out _ HG5.out⟩

set_option maxRecDepth 10000 in
set_option maxHeartbeats 1000000 in
theorem openS2_any (n c H : Nat) (A : Option Addr) (w : World) (hb : Byt w H A n) (hH : H ≤ w.heap.size) (hnc : n ≤ c) (hc : c ≤ 9223372036854775807) :
    Calls Try.prog 69 #[.slice A n c] w fun e w' => e = .returned (.pointer (some ⟨w.heap.size, 0, none⟩)) ∧ (∃ n', n' ≤ 2000 ∧ RdAt w' w.heap.size A n' c 0 ∧ Byt w' H A n') ∧ w'.heap.size = w.heap.size + 1 ∧ Below w.heap.size w w' := by
  have hbl : ∀ o : Obj, Below w.heap.size w (w.alloc o) := fun o => (Below.refl _ _).alloc (Nat.le_refl _) _
  by_cases h2 : 2000 < n
  · obtain ⟨b, o, e, hbH, hcs⟩ := hb (by omega)
    subst e
    have HB : Hid (Byt w H (some ⟨b, o, none⟩) 2000) := fun _ => ⟨b, o, rfl, hbH, fun k hk => hcs k (by omega)⟩
    obtain ⟨i0, hi, hz0, hz1, hz2⟩ := info_parts (show (Try.prog.info? 5).map (fun i => (i.zero, i.size, i.bytes)) = some (some (.int .u8 0), 1, 1) by kernel_rfl)
    have hsl : ∀ W, (Instr.slice 22 (.slice (some ⟨b, o, none⟩) n c) none (some (.int .i64 2000)) none).run Try.prog W = .ok (.slice (some ⟨b, o, none⟩) 2000 c) W := fun W => by
      have he : Try.prog.elem 22 = 5 := by kernel_rfl
      have h := run_slice_h (P := Try.prog) W 22 (some ⟨b, o, none⟩) n c (by rw [he]; exact Try.underlying22) .i64 2000 (by omega) (by omega)
      rw [h, he, run_sizeOf W hi, Result.andThen_ok]
      simp [sliced, Addr.add]
    clear hb hcs
    go_enter Try.func69, Try.ntmps69
    go_wp2
    go_ret
    exact ⟨rfl, ⟨2000, Nat.le_refl _, heap_alloc_new w _, HB.out.below ((hbl _).mono hH)⟩, by simp, hbl _⟩
  · have HB := Lib.hid hb
    clear hb
    go_enter Try.func69, Try.ntmps69
    go_wp2
    go_ret
    exact ⟨rfl, ⟨n, by omega, heap_alloc_new w _, HB.out.below ((hbl _).mono hH)⟩, by simp, hbl _⟩

set_option maxHeartbeats 1000000 in
theorem pair92_any (n c H : Nat) (A : Option Addr) (w : World) (hb : Byt w H A n) (hH : H ≤ w.heap.size) (hnc : n ≤ c) (hc : c ≤ 9223372036854775807) :
    Calls Try.prog 90 #[.slice A n c] w fun e w' => ∃ v v' l l', e = .returned (.tuple #[v, v']) ∧ RowV w' w.heap.size v l ∧ RowV w' w.heap.size v' l' ∧ (l.length ≤ 7 ∧ l'.length ≤ 7) ∧ Below w.heap.size w w' := by
  have HOP := Lib.hid (openS2_any n c H A w hb hH hnc hc)
  clear hb
  go_enter Try.func90, Try.ntmps90
  go_wp2_with fail
  refine HOP.out.mono ?_
  rintro e w1 ⟨rfl, ⟨n', hn', h1, h2⟩, hz, hb1⟩
  have HT := Lib.hid (two92_any w.heap.size n' c H A w1 h1 h2 hH hn' hz)
  have HB1 := Lib.hid hb1
  clear h1 h2 hz hb1 HOP
  go_wp2_with fail
  refine HT.out.mono ?_
  rintro e w2 ⟨v, v', l, l', _, rfl, hv, hv', hll, _, hb⟩
  have HV := Lib.hid (hv.less (Nat.le_succ _))
  have HV' := Lib.hid (hv'.less (Nat.le_succ _))
  have HB := Lib.hid (HB1.out.trans hb)
  clear hv hv' hb HB1 HT
  go_wp2
  go_ret2
  exact ⟨v, v', l, l', rfl, HV.out, HV'.out, hll, HB.out⟩

end Go.Proofs.Ytamnacgclhaggab
