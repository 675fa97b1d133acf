/- PairFewest of the program. -/
import Derived.Test.YtamnacgclhaggaaFewI
import Derived.Test.YtamnacgclhaggaaSch
namespace Go.Proofs.Ytamnacgclhaggaa
open Go.ChangeShapes Go.WideShapes Go.ChangeAt Go.RowKit

set_option maxRecDepth 10000 in
set_option maxHeartbeats 2000000 in
theorem feR_any (A' : Option Addr) (m d H' : Nat) (q : Int) (L : List (List Int)) (w : World) (h' : RdS w H' A' m L) (hH : H' ≤ w.heap.size) (_ : tot L ≤ 1048576) :
    Calls Try.prog 37 #[.int .i64 q, .slice A' m d] w fun e w' => ∃ v, e = .returned (.tuple #[.int .i64 (feV q L), v, .bool (feB q L)]) ∧ RowV w' w.heap.size v (feL q L) ∧ Below w.heap.size w w' := by
  have HT := Lib.hid (readPairs_any A' m d H' L q w h' hH)
  have HL := Lib.hid h'.len
  obtain ⟨cb, hcb⟩ : ∃ cb, cb = choB q L := ⟨_, rfl⟩
  rw [← hcb] at HT
  have HCB := Lib.hid hcb
  have hnil : ∀ W : World, RowV W w.heap.size (.slice none 0 0) [] := fun _ => ⟨.inl ⟨rfl, rfl⟩, none, 0, rfl, by simp, by omega⟩
  have HNIL := Lib.hid hnil
  clear h' hcb hnil
  by_cases hn : 4 ≤ q ∧ q ≤ 6
  rotate_left
  · have hb : (decide (4 ≤ q) && decide (q ≤ 6)) = false := by simp; omega
    have T1 : Hid (feB q L = false ∧ feV q L = 0 ∧ feL q L = []) := by
      have e : feB q L = false := by rw [feB, hb]; simp
      exact ⟨e, by rw [feV, e]; simp, by rw [feL, e]; simp⟩
    rw [T1.out.1, T1.out.2.1, T1.out.2.2]
    clear hn
    cases cb
    all_goals
      go_enter Try.func37, Try.ntmps37
      go_wp2_with fail
      refine HT.out.mono ?_
      rintro e w1 ⟨v, M, rfl, hrow, hML, hb1⟩
      clear hML
      obtain ⟨Av, cv, e⟩ := hrow.slice
      have HBX := Lib.hid (hb1.alloc hb1.size (.cells #[.slice Av M.length cv] 98))
      clear hrow hb1 HT
      subst e
      go_wp2_with (go_at_call 81; refine (partedIn_any _ _).mono ?_; rintro e w' ⟨rfl, rfl⟩)
      go_ret3
      exact ⟨.slice none 0 0, rfl, HNIL.out _, HBX.out⟩
  cases cb with
  | false =>
    have T1 : Hid (feB q L = false ∧ feV q L = 0 ∧ feL q L = []) := by
      have e : feB q L = false := by rw [feB, ← HCB.out]; simp
      exact ⟨e, by rw [feV, e]; simp, by rw [feL, e]; simp⟩
    rw [T1.out.1, T1.out.2.1, T1.out.2.2]
    go_enter Try.func37, Try.ntmps37
    go_wp2_with fail
    refine HT.out.mono ?_
    rintro e w1 ⟨v, M, rfl, hrow, hML, hb1⟩
    clear hML
    obtain ⟨Av, cv, e⟩ := hrow.slice
    have HBX := Lib.hid (hb1.alloc hb1.size (.cells #[.slice Av M.length cv] 98))
    clear hrow hb1 HT
    subst e
    go_wp2
    go_ret3
    exact ⟨.slice none 0 0, rfl, HNIL.out _, HBX.out⟩
  | true =>
  obtain ⟨n, hqn, h4, h6⟩ : ∃ n : Nat, q = n ∧ 4 ≤ n ∧ n ≤ 6 := ⟨q.toNat, by omega, by omega, by omega⟩
  subst hqn
  have hb : (decide (4 ≤ (n : Int)) && decide ((n : Int) ≤ 6)) = true := by simp; omega
  have hcy := cho_yes HCB.out.symm
  have hfi := few_is n L (by omega) h6
  have T1 : Hid (feB (n : Int) L = true ∧ feV (n : Int) L = (chN (fewL n L) L : Nat) ∧ feL (n : Int) L = fewL n L) := by
    have e : feB (n : Int) L = true := by rw [feB, ← HCB.out, hb]; simp
    exact ⟨e, by rw [feV, e, if_pos rfl, Int.toNat_natCast]; exact hfi.2, by rw [feL, e, if_pos rfl, Int.toNat_natCast]⟩
  rw [T1.out.1, T1.out.2.1, T1.out.2.2]
  have HTT := Lib.hid hcy.2
  have H8 := Lib.hid hcy.1
  have HI := Lib.hid hfi.1
  clear hn hcy hfi T1
  go_enter Try.func37, Try.ntmps37
  go_wp2_with fail
  refine HT.out.mono ?_
  rintro e w1 ⟨v, M, rfl, hrow, hML, hb1⟩
  obtain ⟨Av, cv, e⟩ := hrow.slice
  subst e
  have eM := hML (by trivial)
  subst eM
  have hs1 := hb1.size
  have HBX := Lib.hid (hb1.alloc hs1 (.cells #[.slice Av M.length cv] 98))
  have HC0 : Hid ((w1.alloc (.cells #[.slice Av M.length cv] 98)).cell? ⟨w1.heap.size, 0, none⟩ = some (.slice Av M.length cv)) := by
    rw [Hid, cell_of_row _ _ _ _ _ (0, 0) (heap_alloc_new w1 _)]; rfl
  have HR0 := Lib.hid (hrow.alloc (.cells #[.slice Av M.length cv] 98))
  have HRL := Lib.hid (fun i hi => (hrow.lt i hi).2)
  have HSZ : Hid (w1.heap.size < (w1.alloc (.cells #[.slice Av M.length cv] 98)).heap.size) := by rw [Hid]; simp
  clear hrow hML hb1 HT
  go_wp2_with (go_at_call 81; refine (partedIn_any _ _).mono ?_; rintro e w' ⟨rfl, rfl⟩)
  generalize hW0 : w1.alloc (.cells #[.slice Av M.length cv] 98) = W0 at *
  clear hW0
  generalize hbx : w1.heap.size = bx at *
  clear hbx
  refine (allRings_any n W0 (by omega) h6).mono ?_
  rintro e w2 ⟨v2, rfl, hr2, hb2⟩
  obtain ⟨A2, c2, e⟩ := hr2.slice
  subst e
  have HMN := Lib.hid (minF_any n bx (.slice Av M.length cv) (.slice A2 (padM (ringsL n)).length c2) w.heap.size W0.heap.size M w2 hr2 hb2.size ((hb2.cell (p := ⟨bx, 0, none⟩) HSZ.out).trans HC0.out) HSZ.out (HR0.out.below hb2 (fun i hi => (HR0.out.lt i hi).2)) (fun i hi => by have := HRL.out i hi; have := HSZ.out; omega) (by omega) h6 H8.out HTT.out)
  have HB2 := Lib.hid hb2
  clear hr2 hb2
  go_wp2_with fail
  refine HMN.out.mono ?_
  rintro e w3 ⟨rfl, hb3⟩
  have HB3 := Lib.hid (HB2.out.trans hb3)
  have hs3 := HB3.out.size
  have HA := Lib.hid (new_ring w3)
  have H7 := Lib.hid (padR_length (fewL n M) (by rw [HI.out.1]; omega))
  clear hb3 HMN HB2
  go_wp2_with (refine store_ring rfl _ _ rfl w3.heap.size zero7 (padR (fewL n M)) rfl H7.out rfl rfl HA ?_; intro w6 HA6 hg6 hs6; have hb6 : Hid (Below w3.heap.size w3 w6) := Lib.hid (((Below.refl _ _).alloc (Nat.le_refl _) _).grown hg6 (by simp) (by simp)))
  have hs6' := hb6.out.size
  have hlt6 := HA6.out.lt
  have HB36 := Lib.hid (HB3.out.trans (hb6.out.mono hs3))
  have HR6 := Lib.hid (HR0.out.below HB36.out (fun i hi => by have := HRL.out i hi; have := HSZ.out; omega))
  have HRL6 := Lib.hid (fun i hi => (HR6.out.lt i hi).2)
  have HC6 : Hid (w6.cell? ⟨bx, 0, none⟩ = some (.slice Av M.length cv)) := (HB36.out.cell (p := ⟨bx, 0, none⟩) HSZ.out).trans HC0.out
  have hbx6 : bx < w6.heap.size := by have := HSZ.out; have := HB36.out.size; omega
  have HCH := Lib.hid (fun V (hV : Below w6.heap.size w6 V) => chords_any (fewL n M) (.slice Av M.length cv) w.heap.size M V (HR6.out.below hV HRL6.out) (HI.out.tell (by omega) (by omega)) H8.out (by rw [HI.out.1]; exact HTT.out))
  have HLS := Lib.hid (fun V => list_any (fewL n M) V (by rw [HI.out.1]; omega) (by rw [HI.out.1]; omega) HI.out.2.1)
  obtain ⟨a0, a1, a2, a3, a4, a5, a6, hP⟩ := seven H7.out
  unfold agp at HCH HLS
  rw [hP] at HCH HLS HA6
  have HK := Lib.hid (fun V (hV : Below w6.heap.size w6 V) => (⟨cells7 (HA6.out.below hV hlt6), (hV.cell (p := ⟨bx, 0, none⟩) hbx6).trans HC6.out⟩ : _ ∧ _))
  have HBT := Lib.hid (HBX.out.trans (HB36.out.mono (by have := HSZ.out; omega)))
  have hsw : w.heap.size ≤ w6.heap.size := HBT.out.size
  simp only [ints, List.map_cons, List.map_nil] at HCH HLS
  obtain ⟨r, hr⟩ : ∃ r, r = chN (fewL n M) M := ⟨_, rfl⟩
  rw [← hr] at HCH
  have HRR := Lib.hid hr
  clear hr hP hg6 hs6 hb6 HA HR0 HC0 HB3 HB36
  generalize hrb : w3.heap.size = rb at *
  have HZ := Lib.hid (Below.refl w6.heap.size w6).drew
  have HST := Lib.hid (fun (V V' : World) (h1 : Below w6.heap.size w6 V) (h2 : Below V.heap.size V V') => h1.trans (h2.mono h1.size))
  clear hrb
  go_region_held3 (fun V => (V.cell? ⟨rb, 0, none⟩ = some (.int .i64 a0) ∧ V.cell? ⟨rb, 1, none⟩ = some (.int .i64 a1) ∧ V.cell? ⟨rb, 2, none⟩ = some (.int .i64 a2) ∧ V.cell? ⟨rb, 3, none⟩ = some (.int .i64 a3) ∧ V.cell? ⟨rb, 4, none⟩ = some (.int .i64 a4) ∧ V.cell? ⟨rb, 5, none⟩ = some (.int .i64 a5) ∧ V.cell? ⟨rb, 6, none⟩ = some (.int .i64 a6)) ∧ V.cell? ⟨bx, 0, none⟩ = some (.slice Av M.length cv))
    (first
      | exact HK.out _ HZ.out
      | exact HK.out _ H1.out
      | exact HK.out _ H2.out)
    (first
      | (go_at_call 78; refine (HCH.out _ HZ.out).mono ?_; rintro e w7 ⟨rfl, hb⟩; have H1 := Lib.hid (HST.out _ _ HZ.out hb); clear hb)
      | (go_at_call 53; refine (HLS.out _).mono ?_; rintro e w8 ⟨v8, rfl, ho8, hb⟩; have HO8 := Lib.hid ho8; have H2 := Lib.hid (HST.out _ _ H1.out hb); clear hb ho8))
  all_goals
    go_wp2
    go_ret3
    have hs7 := H1.out.size
    exact ⟨v8, by rw [HRR.out]; rfl, (own_less HO8.out (by omega)).rowV5, HBT.out.trans (H2.out.mono hsw)⟩
theorem feI_any (A' : Option Addr) (m d H' : Nat) (q : Int) (L : List (List Int)) (w : World) (h' : RdS w H' A' m L) (hH : H' ≤ w.heap.size) (ht : tot L ≤ 1048576) :
    Calls Try.prog 37 #[.int .i64 q, .slice A' m d] w fun e w' => ∃ v, e = .returned (.tuple #[.int .i64 (feV q L), v, .bool (feB q L)]) ∧ OwnG w' w.heap.size v (feL q L) ∧ Below w.heap.size w w' :=
  (feR_any A' m d H' q L w h' hH ht).mono fun _ _ ⟨v, e, ho, hb⟩ => ⟨v, e, ho.1, hb⟩
end Go.Proofs.Ytamnacgclhaggaa
