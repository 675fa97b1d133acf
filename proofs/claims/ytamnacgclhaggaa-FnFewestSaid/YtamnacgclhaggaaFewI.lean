/- slices.MinFunc over all rings; the program's first ring with fewest pairs that part. -/
import Derived.Test.YtamnacgclhaggaaFew
import Derived.Test.YtamnacgclhaggaaPcT
import Derived.Deep.RegionHeld3
namespace Go.Proofs.Ytamnacgclhaggaa
open Go.ChangeShapes Go.WideShapes Go.ChangeAt Go.RowKit

set_option maxRecDepth 10000 in
set_option maxHeartbeats 2000000 in
theorem few1_any (la lb : List Int) (bx : Nat) (v : Value) (C : Nat) (L : List (List Int)) (w : World) (hbx : w.cell? ⟨bx, 0, none⟩ = some v) (h : RowN w C 77 2 v L) (hta : Tell la) (htb : Tell lb)
    (hm : L.length ≤ 8) (hMa : ∀ t ∈ L, Two (la.length : Int) t) (hMb : ∀ t ∈ L, Two (lb.length : Int) t) :
    Calls Try.prog 84 #[.agg (ints (padR la)).toArray, .agg (ints (padR lb)).toArray, .pointer (some ⟨bx, 0, none⟩)] w fun e w' => e = .returned (.int .i64 ((chN la L : Int) - (chN lb L : Int))) ∧ Below w.heap.size w w' := by
  obtain ⟨A, c, rfl⟩ := h.slice
  obtain ⟨W0, hW0⟩ : ∃ W, W = w.alloc (.cells (ints (padR la)).toArray 53) := ⟨_, rfl⟩
  obtain ⟨W, hW⟩ : ∃ W, W = W0.alloc (.cells (ints (padR lb)).toArray 53) := ⟨_, rfl⟩
  have hbw : bx < w.heap.size := World.block_lt_of_cell? w _ hbx
  have k0 : Arr W0 w.heap.size (padR la) := by rw [hW0]; exact heap_alloc_new w _
  have s0 : W0.heap.size = w.heap.size + 1 := by rw [hW0]; simp
  have k1 : Arr W w.heap.size (padR la) := by rw [hW]; exact k0.alloc _
  have k1' : Arr W (w.heap.size + 1) (padR lb) := by rw [hW, ← s0]; exact heap_alloc_new W0 _
  have kb : Below w.heap.size w W := by rw [hW, hW0]; exact ((Below.refl _ _).alloc (Nat.le_refl _) _).alloc (by simp) _
  have k2 : W.heap.size = w.heap.size + 2 := by rw [hW]; simp [s0]
  have k3 : W.cell? ⟨bx, 0, none⟩ = some (.slice A L.length c) := (kb.cell (p := ⟨bx, 0, none⟩) hbw).trans hbx
  have hrow : ∀ V, Below W.heap.size W V → RowN V C 77 2 (.slice A L.length c) L := fun V hV => (h.below kb (fun i hi => (h.lt i hi).2)).below hV (fun i hi => by have := (h.lt i hi).2; omega)
  have HA := Lib.hid (fun V hV => chords_any la (.slice A L.length c) C L V (hrow V hV) hta hm hMa)
  have HBB := Lib.hid (fun V hV => chords_any lb (.slice A L.length c) C L V (hrow V hV) htb hm hMb)
  obtain ⟨a0, a1, a2, a3, a4, a5, a6, hP⟩ := seven (padR_length la hta.2.1)
  obtain ⟨b0, b1, b2, b3, b4, b5, b6, hQ⟩ := seven (padR_length lb htb.2.1)
  unfold agp at HA HBB
  rw [hP] at HA k1 hW0 ⊢
  rw [hQ] at HBB k1' hW ⊢
  change Calls Try.prog 84 #[ag a0 a1 a2 a3 a4 a5 a6, ag b0 b1 b2 b3 b4 b5 b6, .pointer (some ⟨bx, 0, none⟩)] w _
  have HK := Lib.hid (fun V (hV : Below W.heap.size W V) => (⟨cells7 (k1.below hV (by omega)), cells7 (k1'.below hV (by omega)), (hV.cell (p := ⟨bx, 0, none⟩) (by simp; omega)).trans k3⟩ : _ ∧ _ ∧ _))
  have HB := Lib.hid kb
  obtain ⟨qa, hqa⟩ : ∃ q, q = chN la L := ⟨_, rfl⟩
  obtain ⟨qb, hqb⟩ : ∃ q, q = chN lb L := ⟨_, rfl⟩
  rw [← hqa] at HA ⊢
  rw [← hqb] at HBB ⊢
  have hqam : qa ≤ 64 := by rw [hqa]; exact chN_le la L hm
  have hqbm : qb ≤ 64 := by rw [hqb]; exact chN_le lb L hm
  simp only [ints, List.map_cons, List.map_nil] at hW0 hW HA HBB
  clear h hMa hMb hta htb hP hQ hqa hqb k0 s0 k1 k1' k3 hbx kb hrow
  have HSZ := Lib.hid k2
  have hBW : w.heap.size + 1 < W.heap.size := by omega
  clear k2
  go_enter Try.func84, Try.ntmps84
  go_wp2
  rw [← hW0, ← hW]
  clear hW0 hW
  generalize hBe : w.heap.size = B at *
  have HBE := Lib.hid hBe
  clear hBe
  have hw1 : IntKind.i64.wrap ((qa : Int) - (qb : Int)) = (qa : Int) - (qb : Int) := by rw [IntKind.wrap_i64]; omega
  have HST := Lib.hid (fun (V V' : World) (h1 : Below W.heap.size W V) (h2 : Below V.heap.size V V') => h1.trans (h2.mono (by have := h1.size; omega)))
  go_region_held3 (fun V => (V.cell? ⟨B, 0, none⟩ = some (.int .i64 a0) ∧ V.cell? ⟨B, 1, none⟩ = some (.int .i64 a1) ∧ V.cell? ⟨B, 2, none⟩ = some (.int .i64 a2) ∧ V.cell? ⟨B, 3, none⟩ = some (.int .i64 a3) ∧ V.cell? ⟨B, 4, none⟩ = some (.int .i64 a4) ∧ V.cell? ⟨B, 5, none⟩ = some (.int .i64 a5) ∧ V.cell? ⟨B, 6, none⟩ = some (.int .i64 a6)) ∧ (V.cell? ⟨B + 1, 0, none⟩ = some (.int .i64 b0) ∧ V.cell? ⟨B + 1, 1, none⟩ = some (.int .i64 b1) ∧ V.cell? ⟨B + 1, 2, none⟩ = some (.int .i64 b2) ∧ V.cell? ⟨B + 1, 3, none⟩ = some (.int .i64 b3) ∧ V.cell? ⟨B + 1, 4, none⟩ = some (.int .i64 b4) ∧ V.cell? ⟨B + 1, 5, none⟩ = some (.int .i64 b5) ∧ V.cell? ⟨B + 1, 6, none⟩ = some (.int .i64 b6)) ∧ V.cell? ⟨bx, 0, none⟩ = some (.slice A L.length c))
    (first
      | exact HK.out _ (Below.refl _ _).drew
      | exact HK.out _ HB1.out
      | exact HK.out _ HB2.out
      | exact HK.out _ HB3.out
      | exact HK.out _ HB4.out)
    (first
      | (go_at_call_of 78 (Value.int IntKind.i64 a0); first | (refine (HA.out _ HB3.out).mono ?_; rintro e w5 ⟨rfl, hb⟩; have HB4 := Lib.hid (HST.out _ _ HB3.out hb); clear hb) | (refine (HA.out _ (Below.refl _ W).drew).mono ?_; rintro e w5 ⟨rfl, hb⟩; have HB1 := Lib.hid (HST.out _ _ (Below.refl _ W).drew hb); clear hb))
      | (go_at_call_of 78 (Value.int IntKind.i64 b0); first | (refine (HBB.out _ HB1.out).mono ?_; rintro e w6 ⟨rfl, hb⟩; have HB2 := Lib.hid (HST.out _ _ HB1.out hb); clear hb) | (refine (HBB.out _ (Below.refl _ W).drew).mono ?_; rintro e w6 ⟨rfl, hb⟩; have HB3 := Lib.hid (HST.out _ _ (Below.refl _ W).drew hb); clear hb)))
  all_goals
    go_wp2
    go_ret
    exact ⟨rfl, by rw [HBE.out]; exact HB.out.trans (by first | exact HB2.out.mono (by omega) | exact HB4.out.mono (by omega))⟩

set_option maxRecDepth 10000 in
set_option maxHeartbeats 4000000 in
theorem minF_any (n : Nat) (bx : Nat) (v vr : Value) (C D : Nat) (L : List (List Int)) (w : World) (hr : RowN w D 53 7 vr (padM (ringsL n))) (hD : D ≤ w.heap.size) (hbx : w.cell? ⟨bx, 0, none⟩ = some v) (hbD : bx < D) (h : RowN w C 77 2 v L) (hCD : ∀ i, v.ownBlock = some i → i < D)
    (h3 : 3 ≤ n) (h6 : n ≤ 6) (hm : L.length ≤ 8) (hT : ∀ t ∈ L, Two (n : Int) t) :
    Calls Try.prog 82 #[vr, .func (.func 84) #[] #[.pointer (some ⟨bx, 0, none⟩)]] w fun e w' => e = .returned (agp (fewL n L)) ∧ Below D w w' := by
  obtain ⟨hf1, hf2, hf3, hf4⟩ := facM_eq n h3 h6
  have HE := enters_fn Try.func84 (by decide) rfl
  have HC := Lib.hid (fun V (hV : Below D w V) (la lb : List Int) (ha : IsR n la) (hb : IsR n lb) => few1_any la lb bx v C L V ((hV.cell (p := ⟨bx, 0, none⟩) hbD).trans hbx) (h.below hV hCD) (ha.tell (by omega) (by omega)) (hb.tell (by omega) (by omega)) hm (by rw [ha.1]; exact hT) (by rw [hb.1]; exact hT))
  obtain ⟨N, hN⟩ : ∃ N, N = facM n := ⟨_, rfl⟩
  have hlen : (padM (ringsL n)).length = N := by simp [padM, ringsL_length, hN]
  have HIS := Lib.hid (fun k (hk : k < N) => byL_is n k h3 h6 (by rw [← hN]; exact hk))
  have HROW : Hid (∀ k, k < N → rowK (padM (ringsL n)) k = padR (byL n (k : Int))) := fun k hk => by
    simp [padM, ringsL, rowK, List.getD, show k < facM n by omega]
  have HBI := Lib.hid (fun k (h0 : 0 < k) (hk : k ≤ N) => by
    obtain ⟨j, hj, e1, e2⟩ := bsf_is n L k h0
    have hi := byL_is n j h3 h6 (by omega)
    rw [← e1] at hi
    exact (⟨hi, by rw [e2, e1]⟩ : IsR n (bsf n L k).1 ∧ (bsf n L k).2 = (chN (bsf n L k).1 L : Int)))
  have HFIN : Hid (fewL n L = (bsf n L N).1) := by rw [hN]; rfl
  rw [← hN] at hf2 hf3
  obtain ⟨g, c, e0, hDg, hgw, _, _, _, _⟩ := hr.elem (k := 0) (by rw [hlen]; omega)
  rw [hlen] at e0
  subst e0
  have HR := Lib.hid hr
  have HLEN := Lib.hid hlen
  have HMX := Lib.hid hm
  clear hr h hbx hT hf1 hf4 hN hlen hCD hm
  obtain ⟨M, hM⟩ : ∃ M, M = padM (ringsL n) := ⟨_, rfl⟩
  rw [← hM] at HR HROW HLEN
  clear hM
  have hR0 : Hid (RowN (w.alloc (.cells #[.int .i64 0, .int .i64 0, .int .i64 0, .int .i64 0, .int .i64 0, .int .i64 0, .int .i64 0] 53)) D 53 7 (.slice (some ⟨g, 0, none⟩) N c) M) := HR.out.alloc _
  have hA0 : Hid (Arr ((w.alloc (.cells #[.int .i64 0, .int .i64 0, .int .i64 0, .int .i64 0, .int .i64 0, .int .i64 0, .int .i64 0] 53)).alloc (.cells #[.int .i64 0, .int .i64 0, .int .i64 0, .int .i64 0, .int .i64 0, .int .i64 0, .int .i64 0] 53)) w.heap.size zero7) := Lib.hid ((new_ring w).alloc _)
  have ha1 := new_ring (w.alloc (.cells #[.int .i64 0, .int .i64 0, .int .i64 0, .int .i64 0, .int .i64 0, .int .i64 0, .int .i64 0] 53))
  rw [show (w.alloc (.cells #[.int .i64 0, .int .i64 0, .int .i64 0, .int .i64 0, .int .i64 0, .int .i64 0, .int .i64 0] 53)).heap.size = w.heap.size + 1 by simp] at ha1
  have HA1 := Lib.hid ha1
  have HB0 : Hid (Below D w ((w.alloc (.cells #[.int .i64 0, .int .i64 0, .int .i64 0, .int .i64 0, .int .i64 0, .int .i64 0, .int .i64 0] 53)).alloc (.cells #[.int .i64 0, .int .i64 0, .int .i64 0, .int .i64 0, .int .i64 0, .int .i64 0, .int .i64 0] 53))) := Lib.hid (((Below.refl _ _).alloc hD _).alloc (by simp; omega) _)
  have HR1 : Hid (RowN ((w.alloc (.cells #[.int .i64 0, .int .i64 0, .int .i64 0, .int .i64 0, .int .i64 0, .int .i64 0, .int .i64 0] 53)).alloc (.cells #[.int .i64 0, .int .i64 0, .int .i64 0, .int .i64 0, .int .i64 0, .int .i64 0, .int .i64 0] 53)) D 53 7 (.slice (some ⟨g, 0, none⟩) N c) M) := Lib.hid (hR0.out.alloc _)
  have hi0 := HIS.out 0 (by omega)
  have HI0 := Lib.hid hi0
  have H70 := Lib.hid (padR_length (byL n ((0 : Nat) : Int)) (by rw [hi0.1]; omega))
  have HRW0 := Lib.hid (HROW.out 0 (by omega))
  have hdl : decide ((N : Int) < 1) = false := by simp; omega
  have H0M : Hid (0 < M.length) := Lib.hid (by rw [HLEN.out]; omega)
  have HB1S : Hid (bsf n L 1 = (byL n ((0 : Nat) : Int), (chN (byL n ((0 : Nat) : Int)) L : Int))) := by
    rw [Hid, bsf, if_pos (.inl (by simp [bsf]))]
  clear hi0 ha1
  go_enter Try.func82, Try.ntmps82
  go_wp2_with (first
    | (refine load_elem rfl _ 53 rfl _ rfl Try.underlying53 g N c D 0 7 M hR0 H0M.out ring_size rfl ?_; rw [HRW0.out])
    | (refine store_ring rfl _ _ rfl (w.heap.size + 1) zero7 (padR (byL n ((0 : Nat) : Int))) rfl H70.out rfl rfl HA1 ?_; intro w2 HA2 hg2 hs2))
  have HA02 := Lib.hid (hA0.out.grown hg2 (by omega))
  have HR2 := Lib.hid (HR1.out.grown hg2 (by intro i hi; simp [Value.ownBlock] at hi; simp; omega))
  have HB2 := Lib.hid (HB0.out.grown hg2 (by simp; omega) (by simp; omega))
  have hsz2 : w.heap.size + 2 = w2.heap.size := by rw [hs2]; simp
  clear hR0 hA0 HA1 HB0 HR1 hg2 hs2 HR
  have HSZ2 := Lib.hid hsz2
  have hBs : D ≤ w.heap.size := hD
  clear hsz2
  generalize hBe : w.heap.size = B at *
  have HBE := Lib.hid hBe
  clear hBe
  go_loopw [6] (fun i wr => ∃ k : Nat, 1 ≤ k ∧ k ≤ N ∧ i = .int .i64 k ∧ Hid (RowN wr D 53 7 (.slice (some ⟨g, 0, none⟩) N c) M) ∧ Hid (Arr wr (B + 1) (padR (bsf n L k).1)) ∧ Hid (Arr wr B zero7) ∧ Hid (Below D w wr)) (fun i _ => N - (intOf i).toNat)
  case atStart => exact ⟨1, Nat.le_refl _, by omega, rfl, HR2, by rw [HB1S.out]; exact HA2, HA02, HB2⟩
  case round =>
    obtain ⟨k, hk1, hk, rfl, hrd, harr, harr0, hbl⟩ := hrel
    clear HR2 HA2 HA02 HB2
    have hBw := harr.out.lt
    by_cases hlt : k < N
    · have hkM : k < M.length := by rw [HLEN.out]; exact hlt
      have HKM := Lib.hid hkM
      obtain ⟨g', c', e0, _, hgw', _, _, h7, hcs⟩ := hrd.out.elem hkM
      rw [HLEN.out] at e0
      injection e0 with e1 _ e3
      injection e1 with e1
      injection e1 with e1
      subst e1; subst e3
      have hrk := HROW.out k hlt
      have HRK := Lib.hid hrk
      rw [hrk] at h7 hcs
      have hIk := HIS.out k hlt
      have HIk := Lib.hid hIk
      obtain ⟨hIb, hVb⟩ := HBI.out k (by omega) hk
      have hcl := HC.out
      obtain ⟨la, hla⟩ : ∃ la, la = byL n (k : Int) := ⟨_, rfl⟩
      obtain ⟨lb, hlb⟩ : ∃ lb, lb = (bsf n L k).1 := ⟨_, rfl⟩
      have HST : Hid (bsf n L (k + 1) = if (bsf n L k).2 < 0 ∨ (chN la L : Int) < (bsf n L k).2 then (la, (chN la L : Int)) else bsf n L k) := by rw [hla]; rfl
      rw [hVb, ← hlb] at HST
      rw [← hla] at hrk h7 hcs hIk HRK
      rw [← hlb] at hIb
      have HLB := Lib.hid hlb
      have hCC := Lib.hid (fun V hV => hcl V hV la lb hIk hIb)
      have harr' : Arr wr (B + 1) (padR lb) := by rw [hlb]; exact harr.out
      have h7b : (padR lb).length = 7 := padR_length lb (by rw [hIb.1]; omega)
      have hqa := chN_le la L HMX.out
      have hqb := chN_le lb L HMX.out
      have hLm : L.length ≤ 8 := HMX.out
      obtain ⟨qa, hqae⟩ : ∃ q, q = chN la L := ⟨_, rfl⟩
      obtain ⟨qb, hqbe⟩ : ∃ q, q = chN lb L := ⟨_, rfl⟩
      rw [← hqae] at HST hCC hqa
      rw [← hqbe] at HST hCC hqb
      have H77 := Lib.hid h7
      have H7B := Lib.hid h7b
      obtain ⟨a0, a1, a2, a3, a4, a5, a6, hPa⟩ := seven h7
      obtain ⟨b0, b1, b2, b3, b4, b5, b6, hPb⟩ := seven h7b
      rw [hPa, hPb] at hCC
      rw [hPb] at harr'
      rw [hPa] at hcs
      have HPA := Lib.hid hPa
      have HPB := Lib.hid hPb
      simp only [ints, List.map_cons, List.map_nil] at hCC hcs
      have HCS : Hid (wr.cell? ⟨g, k * 7, none⟩ = some (.int .i64 a0) ∧ wr.cell? ⟨g, k * 7 + 1, none⟩ = some (.int .i64 a1) ∧ wr.cell? ⟨g, k * 7 + 2, none⟩ = some (.int .i64 a2) ∧ wr.cell? ⟨g, k * 7 + 3, none⟩ = some (.int .i64 a3) ∧ wr.cell? ⟨g, k * 7 + 4, none⟩ = some (.int .i64 a4) ∧ wr.cell? ⟨g, k * 7 + 5, none⟩ = some (.int .i64 a5) ∧ wr.cell? ⟨g, k * 7 + 6, none⟩ = some (.int .i64 a6)) :=
        ⟨hcs 0 _ rfl, hcs 1 _ rfl, hcs 2 _ rfl, hcs 3 _ rfl, hcs 4 _ rfl, hcs 5 _ rfl, hcs 6 _ rfl⟩
      have hk7 : ∀ V, Below wr.heap.size wr V → V.cell? ⟨g, k * 7, none⟩ = some (.int .i64 a0) ∧ V.cell? ⟨g, k * 7 + 1, none⟩ = some (.int .i64 a1) ∧ V.cell? ⟨g, k * 7 + 2, none⟩ = some (.int .i64 a2) ∧ V.cell? ⟨g, k * 7 + 3, none⟩ = some (.int .i64 a3) ∧ V.cell? ⟨g, k * 7 + 4, none⟩ = some (.int .i64 a4) ∧ V.cell? ⟨g, k * 7 + 5, none⟩ = some (.int .i64 a5) ∧ V.cell? ⟨g, k * 7 + 6, none⟩ = some (.int .i64 a6) := fun V hV => ⟨(hV.cell (p := ⟨g, k * 7, none⟩) hgw').trans HCS.out.1, (hV.cell (p := ⟨g, k * 7 + 1, none⟩) hgw').trans HCS.out.2.1, (hV.cell (p := ⟨g, k * 7 + 2, none⟩) hgw').trans HCS.out.2.2.1, (hV.cell (p := ⟨g, k * 7 + 3, none⟩) hgw').trans HCS.out.2.2.2.1, (hV.cell (p := ⟨g, k * 7 + 4, none⟩) hgw').trans HCS.out.2.2.2.2.1, (hV.cell (p := ⟨g, k * 7 + 5, none⟩) hgw').trans HCS.out.2.2.2.2.2.1, (hV.cell (p := ⟨g, k * 7 + 6, none⟩) hgw').trans HCS.out.2.2.2.2.2.2⟩
      have HK := Lib.hid (fun V (hV : Below wr.heap.size wr V) => (⟨hk7 V hV, cells7 (harr'.below hV hBw)⟩ : _ ∧ _))
      clear hk7
      have hDw : D ≤ wr.heap.size := Nat.le_trans hBs (by omega)
      clear hcs harr' h7 h7b hla hlb hqae hqbe hPa hPb hIk hIb hVb hcl hrk hkM
      obtain ⟨dd, hdd⟩ : ∃ dd : Int, dd = (qa : Int) - (qb : Int) := ⟨_, rfl⟩
      rw [← hdd] at hCC
      have HDD := Lib.hid hdd
      clear hdd
      by_cases hgt : dd < 0
      · have hd : decide (dd < 0) = true := by simpa using hgt
        have HNX : Hid (bsf n L (k + 1) = (la, (qa : Int))) := by
          have := HST.out
          rw [if_pos (by have := HDD.out; omega)] at this
          exact this
        clear hgt
        go_wp2
        go_region_held3 (fun V => (V.cell? ⟨g, k * 7, none⟩ = some (.int .i64 a0) ∧ V.cell? ⟨g, k * 7 + 1, none⟩ = some (.int .i64 a1) ∧ V.cell? ⟨g, k * 7 + 2, none⟩ = some (.int .i64 a2) ∧ V.cell? ⟨g, k * 7 + 3, none⟩ = some (.int .i64 a3) ∧ V.cell? ⟨g, k * 7 + 4, none⟩ = some (.int .i64 a4) ∧ V.cell? ⟨g, k * 7 + 5, none⟩ = some (.int .i64 a5) ∧ V.cell? ⟨g, k * 7 + 6, none⟩ = some (.int .i64 a6)) ∧ (V.cell? ⟨B + 1, 0, none⟩ = some (.int .i64 b0) ∧ V.cell? ⟨B + 1, 1, none⟩ = some (.int .i64 b1) ∧ V.cell? ⟨B + 1, 2, none⟩ = some (.int .i64 b2) ∧ V.cell? ⟨B + 1, 3, none⟩ = some (.int .i64 b3) ∧ V.cell? ⟨B + 1, 4, none⟩ = some (.int .i64 b4) ∧ V.cell? ⟨B + 1, 5, none⟩ = some (.int .i64 b5) ∧ V.cell? ⟨B + 1, 6, none⟩ = some (.int .i64 b6)))
          (first
            | exact HK.out _ (Below.refl _ _).drew
            | exact HK.out _ HB5.out)
          (first
            | (go_at_call 84; refine (hCC.out _ hbl.out.drew).mono ?_; rintro e w5 ⟨rfl, hb5⟩; have HB5 := Lib.hid ((Below.refl _ wr).drew.trans hb5); clear hb5))
        all_goals
          have HR5 := Lib.hid (hrd.out.below HB5.out (fun i hi => (hrd.out.lt i hi).2))
          have HA5 := Lib.hid (harr.out.below HB5.out hBw)
          have HA05 := Lib.hid (harr0.out.below HB5.out harr0.out.lt)
          have HBL5 := Lib.hid (hbl.out.trans (HB5.out.mono hDw))
          have hs5 := HB5.out.size
          have HAA : Hid (Arr w5 (B + 1) (padR lb)) := by rw [HLB.out]; exact HA5
          go_wp2_with (first
            | (refine load_elem rfl _ 53 rfl _ rfl Try.underlying53 g N c D k 7 M HR5 HKM.out ring_size rfl ?_; rw [HRK.out])
            | (refine store_ring rfl _ _ rfl (B + 1) (padR lb) (padR la) H7B.out H77.out rfl rfl HAA ?_; intro w6 HA6 hg6 hs6))
          go_wp2
          go_roundw
          case rel => exact ⟨k + 1, by omega, by omega, by go_num, Lib.hid (HR5.out.grown hg6 (by intro i hi; simp [Value.ownBlock] at hi; simp; omega)), by rw [HNX.out]; exact HA6, Lib.hid (HA05.out.grown hg6 (by omega)), Lib.hid (HBL5.out.grown hg6 (by omega) (by simp; omega))⟩
          case measure => simp [intOf]; omega
      · have hd : decide (dd < 0) = false := by simpa using hgt
        have HNX : Hid (bsf n L (k + 1) = bsf n L k) := by
          have := HST.out
          rw [if_neg (by have := HDD.out; omega)] at this
          exact this
        clear hgt
        go_wp2
        go_region_held3 (fun V => (V.cell? ⟨g, k * 7, none⟩ = some (.int .i64 a0) ∧ V.cell? ⟨g, k * 7 + 1, none⟩ = some (.int .i64 a1) ∧ V.cell? ⟨g, k * 7 + 2, none⟩ = some (.int .i64 a2) ∧ V.cell? ⟨g, k * 7 + 3, none⟩ = some (.int .i64 a3) ∧ V.cell? ⟨g, k * 7 + 4, none⟩ = some (.int .i64 a4) ∧ V.cell? ⟨g, k * 7 + 5, none⟩ = some (.int .i64 a5) ∧ V.cell? ⟨g, k * 7 + 6, none⟩ = some (.int .i64 a6)) ∧ (V.cell? ⟨B + 1, 0, none⟩ = some (.int .i64 b0) ∧ V.cell? ⟨B + 1, 1, none⟩ = some (.int .i64 b1) ∧ V.cell? ⟨B + 1, 2, none⟩ = some (.int .i64 b2) ∧ V.cell? ⟨B + 1, 3, none⟩ = some (.int .i64 b3) ∧ V.cell? ⟨B + 1, 4, none⟩ = some (.int .i64 b4) ∧ V.cell? ⟨B + 1, 5, none⟩ = some (.int .i64 b5) ∧ V.cell? ⟨B + 1, 6, none⟩ = some (.int .i64 b6)))
          (first
            | exact HK.out _ (Below.refl _ _).drew
            | exact HK.out _ HB5.out)
          (first
            | (go_at_call 84; refine (hCC.out _ hbl.out.drew).mono ?_; rintro e w5 ⟨rfl, hb5⟩; have HB5 := Lib.hid ((Below.refl _ wr).drew.trans hb5); clear hb5))
        all_goals
          have HR5 := Lib.hid (hrd.out.below HB5.out (fun i hi => (hrd.out.lt i hi).2))
          have HA5 := Lib.hid (harr.out.below HB5.out hBw)
          have HA05 := Lib.hid (harr0.out.below HB5.out harr0.out.lt)
          have HBL5 := Lib.hid (hbl.out.trans (HB5.out.mono hDw))
          have hs5 := HB5.out.size
          go_wp2
          go_roundw
          case rel => exact ⟨k + 1, by omega, by omega, by go_num, HR5, by rw [HNX.out]; exact HA5, HA05, HBL5⟩
          case measure => simp [intOf]; omega
    · obtain rfl : k = N := by omega
      have hIb := (HBI.out k (by omega) hk).1
      have H7E := Lib.hid (padR_length (bsf n L k).1 (by rw [hIb.1]; omega))
      clear hIb
      have hDw : D ≤ wr.heap.size := Nat.le_trans hBs (by omega)
      go_wp2_with (first
        | (refine load_ring rfl _ rfl (B + 1) (padR (bsf n L k).1) H7E.out rfl harr ?_)
        | (refine store_ring rfl _ _ rfl B zero7 (padR (bsf n L k).1) rfl H7E.out rfl rfl harr0 ?_; intro w6 HA6 hg6 hs6))
      try simp only [Exit.inBlock, Exit.then]
      exact ret_ring rfl B (padR (bsf n L k).1) H7E.out rfl HA6 rfl ⟨by rw [HFIN.out], hbl.out.grown hg6 hDw (by simp; omega)⟩
end Go.Proofs.Ytamnacgclhaggaa
