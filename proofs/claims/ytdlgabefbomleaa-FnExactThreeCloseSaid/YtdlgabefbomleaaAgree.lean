/- The program's rows of all rings and of those that agree. -/
import Derived.Test.YtdlgabefbomleaaRings
import Derived.Deep.RegionHeld3
namespace Go.Proofs.Ytdlgabefbomleaa
open Go.ChangeShapes Go.WideShapes Go.ChangeAt Go.RowKit

theorem enters_fn {f : FuncId} {fn : Func} (hf : Try.prog.funcs[f]? = some fn) (hn : (fn.name == "runtime.NumGoroutine") = false) (hb : fn.body.isNone = false) (args : Array Value) (w : World) : (callFunc f args).run Try.prog w = .ok (.enter f args) w := by
  have h1 : ¬ fn.name = "runtime.NumGoroutine" := by simpa using hn
  have h2 : ¬ fn.body = none := by
    intro e
    rw [e] at hb
    cases hb
  simp [callFunc, go_sem, hf, h1, h2]

def padM (M : List (List Int)) : List (List Int) := M.map padR
def unpad (P : List Int) : List Int := P.filter fun x => decide (0 ≤ x)
theorem unpad_pad (l : List Int) (h : ∀ x ∈ l, 0 ≤ x) : unpad (padR l) = l := by
  unfold unpad padR
  rw [List.filter_append, List.filter_eq_self.2 (fun x hx => by simpa using h x hx)]
  have e : (List.replicate (7 - l.length) (-1 : Int)).filter (fun x => decide (0 ≤ x)) = [] := by
    rw [List.filter_eq_nil_iff]
    intro x hx
    rw [(List.mem_replicate.1 hx).2]; decide
  rw [e, List.append_nil]
theorem filter_pad (M : List (List Int)) (q : List Int → Bool) (h : ∀ l ∈ M, ∀ x ∈ l, 0 ≤ x) : (padM M).filter (fun P => q (unpad P)) = padM (M.filter q) := by
  induction M with
  | nil => rfl
  | cons l M ih =>
    have e := unpad_pad l (h l (by simp))
    have ih' := ih (fun r hr => h r (by simp [hr]))
    simp only [padM, List.map_cons, List.filter_cons, e] at ih' ⊢
    rw [ih']
    cases q l <;> simp
theorem made_ring (n : Nat) : (madeCells #[Value.int .i64 0, Value.int .i64 0, Value.int .i64 0, Value.int .i64 0, Value.int .i64 0, Value.int .i64 0, Value.int .i64 0] (n * 7)).toList = ints (List.replicate n zero7).flatten := by
  rw [made_all _ (.int .i64 0) (by decide) (fun i hi => by
    simp only [List.size_toArray, List.length_cons, List.length_nil] at hi
    obtain rfl | rfl | rfl | rfl | rfl | rfl | rfl : i = 0 ∨ i = 1 ∨ i = 2 ∨ i = 3 ∨ i = 4 ∨ i = 5 ∨ i = 6 := by omega
    all_goals rfl)]
  rw [show zero7 = List.replicate 7 0 from rfl, List.flatten_replicate_replicate, ints, List.map_replicate]

def mixR (M : List (List Int)) (m k : Nat) : List (List Int) := M.take k ++ List.replicate (m - k) zero7
theorem mixR_length (L : List (List Int)) (m k : Nat) (hL : L.length = m) (hk : k ≤ m) : (mixR L m k).length = m := by simp [mixR]; omega
theorem mixR_step (L : List (List Int)) (m k : Nat) (hL : L.length = m) (hk : k < m) : (mixR L m k).set k (rowK L k) = mixR L m (k + 1) := by
  unfold mixR
  have hl : (L.take k).length = k := by simp; omega
  rw [List.set_append_right _ _ (by omega), hl, Nat.sub_self]
  obtain ⟨d, hd⟩ : ∃ d, m - k = d + 1 := ⟨m - k - 1, by omega⟩
  rw [hd, show m - (k + 1) = d by omega, List.replicate_succ, List.set_cons_zero, List.take_succ_eq_append_getElem (by omega), List.append_assoc]
  simp [rowK, List.getD, show k < L.length by omega]
theorem mixR_full (L : List (List Int)) (m : Nat) (hL : L.length = m) : mixR L m m = L := by simp [mixR, ← hL]

set_option maxRecDepth 10000 in
set_option maxHeartbeats 1000000 in
theorem allRings_any (n : Nat) (w : World) (h3 : 3 ≤ n) (h6 : n ≤ 6) :
    Calls Try.prog 101 #[.int .i64 (n : Int)] w fun e w' => ∃ v, e = .returned v ∧ RowN w' w.heap.size 48 7 v (padM (ringsL n)) ∧ Below w.heap.size w w' := by
  obtain ⟨i0, hi, hz0, hz1, hz2⟩ := info_parts ring_info
  obtain ⟨hf1, hf2, hf3, hf4⟩ := facM_eq n h3 h6
  have HFM := Lib.hid hf1
  obtain ⟨N, hN⟩ : ∃ N, N = facM n := ⟨_, rfl⟩
  rw [← hN] at HFM hf2
  have HN := Lib.hid hN
  have hPL : (padM (ringsL n)).length = N := by simp [padM, ringsL_length, hN]
  have HPL := Lib.hid hPL
  have HFACT := Lib.hid (fun W => facI_nat (n - 1) ((n : Int) - 1) W (by omega) (by omega))
  rw [← HFM.out] at HFACT
  have HNB := Lib.hid (fun (k : Nat) (hk : k < N) W => numbered_any n (k : Int) W h3 (by omega) (by omega) (by have := HFM.out; omega))
  have HROW : Hid (∀ k, k < N → rowK (padM (ringsL n)) k = padR (byL n (k : Int))) := fun k hk => by
    simp [padM, ringsL, rowK, List.getD, show k < facM n by omega]
  have H7 := Lib.hid (fun (k : Nat) => padR_length (byL n (k : Int)) (by rw [byL_length]; omega))
  clear hf1 hf3 hf4 hN hPL
  go_enter Try.func101, Try.ntmps101
  go_wp2_with (first
    | (go_at_call 114; refine (HFACT.out _).mono ?_; rintro e w' ⟨rfl, rfl⟩)
    | (at_make; refine wpList_make_full _ rfl _ _ 63 rfl w.heap.size 48 i0 (.agg #[.int .i64 0, .int .i64 0, .int .i64 0, .int .i64 0, .int .i64 0, .int .i64 0, .int .i64 0]) 7 Try.underlying63 hi hz0 hz1 .i64 .i64 _ _ N rfl rfl rfl rfl (by rw [hz2]; omega) (by unfold maxLen; omega) (Nat.le_refl _) ?_))
  intro w1 hown hgrow
  have hb1 : Below w.heap.size w w1 := (Below.refl _ _).grown hgrow (Nat.le_refl _) (by simp)
  obtain ⟨M, hM⟩ : ∃ M, M = padM (ringsL n) := ⟨_, rfl⟩
  rw [← hM] at HPL HROW
  have HM := Lib.hid hM
  clear hM
  have hf1 : Hid (RowN w1 w.heap.size 48 7 (.slice (some ⟨w.heap.size, 0, none⟩) N N) (mixR M N 0)) := by
    rw [made_ring] at hown
    refine ⟨?_, ?_⟩
    · intro l hl
      simp [mixR] at hl
      rw [hl.2]; rfl
    · rw [mixR_length M N 0 HPL.out (by omega)]
      simpa [mixR] using hown
  clear hown hgrow
  generalize hB : w.heap.size = B at *
  have HB := Lib.hid hB
  clear hB
  have hBs : B ≤ w1.heap.size := by rw [← HB.out]; exact hb1.size
  go_wp2
  go_loopw [11] (fun i wr => ∃ k : Nat, k ≤ N ∧ i = .int .i64 k ∧ Hid (RowN wr B 48 7 (.slice (some ⟨B, 0, none⟩) N N) (mixR M N k)) ∧ Below B w wr) (fun i _ => N - (intOf i).toNat)
  case atStart => exact ⟨0, Nat.zero_le _, rfl, hf1, hb1⟩
  case round =>
    obtain ⟨k, hk, rfl, hf, hbl⟩ := hrel
    clear hf1 hb1
    have HBL := Lib.hid hbl
    have hBw : B ≤ wr.heap.size := by rw [← HB.out]; exact hbl.size
    clear hbl
    by_cases hlt : k < N
    · have HC := Lib.hid (HNB.out k hlt)
      have HST := Lib.hid (mixR_step M N k HPL.out hlt)
      rw [HROW.out k hlt] at HST
      have HLN := Lib.hid (mixR_length M N k HPL.out hk)
      have H77 := Lib.hid (H7.out k)
      go_wp2_with (first
        | (go_at_call 115; refine (HC.out _).mono ?_; rintro e w2 ⟨rfl, hb2⟩; have HF2 := Lib.hid (hf.out.below hb2 (fun i hi => (hf.out.lt i hi).2)))
        | (refine store_elem rfl _ _ 48 rfl B N N B k 7 (mixR M N k) (padR (byL n (k : Int))) HF2 (by rw [HLN.out]; exact hlt) H77.out ring_size rfl rfl ?_; intro w8 HR8 hg8))
      rw [HST.out] at HR8
      go_wp2
      go_roundw
      case rel => exact ⟨k + 1, by omega, by go_num, HR8, (HBL.out.trans (hb2.mono hBw)).grown hg8 (by have := hb2.size; omega) (by simp)⟩
      case measure => simp [intOf]; omega
    · obtain rfl : k = N := by omega
      rw [mixR_full M k HPL.out] at hf
      go_wp2
      go_ret
      refine ⟨.slice (some ⟨B, 0, none⟩) k k, rfl, ?_, by rw [HB.out]; exact HBL.out⟩
      rw [HB.out, ← HM.out]; exact hf.out

set_option maxRecDepth 10000 in
set_option maxHeartbeats 1000000 in
theorem agreeing1_any (l : List Int) (bx : Nat) (v : Value) (C : Nat) (L : List (List Int)) (w : World) (hbx : w.cell? ⟨bx, 0, none⟩ = some v) (h : RowN w C 52 3 v L) (h1 : 1 ≤ l.length) (hl : l.length ≤ 7) (hp : ∀ x ∈ l, 0 ≤ x) (hm : L.length ≤ 1000) (hM : Mem3 l L) :
    Calls Try.prog 102 #[.agg (ints (padR l)).toArray, .pointer (some ⟨bx, 0, none⟩)] w fun e w' => e = .returned (.bool (decide (cntL l L < L.length))) ∧ Below w.heap.size w w' := by
  obtain ⟨A, c, rfl⟩ := h.slice
  obtain ⟨W, hW⟩ : ∃ W, W = w.alloc (.cells (ints (padR l)).toArray 48) := ⟨_, rfl⟩
  have hbw : bx < w.heap.size := World.block_lt_of_cell? w _ hbx
  have k1 : Arr W w.heap.size (padR l) := by rw [hW]; exact heap_alloc_new w _
  have kb : Below w.heap.size w W := by rw [hW]; exact (Below.refl _ _).alloc (Nat.le_refl _) _
  have k2 : W.heap.size = w.heap.size + 1 := by rw [hW]; simp
  have k3 : W.cell? ⟨bx, 0, none⟩ = some (.slice A L.length c) := (kb.cell (p := ⟨bx, 0, none⟩) hbw).trans hbx
  have HA := Lib.hid (fun V (hV : Below W.heap.size W V) => agrees_any l (.slice A L.length c) C L V ((h.below kb (fun i hi => (h.lt i hi).2)).below hV (fun i hi => by have := (h.lt i hi).2; omega)) h1 hl hp hm hM)
  obtain ⟨a0, a1, a2, a3, a4, a5, a6, hP⟩ := seven (padR_length l hl)
  unfold agp at HA
  rw [hP] at HA k1 hW ⊢
  change Calls Try.prog 102 #[ag a0 a1 a2 a3 a4 a5 a6, .pointer (some ⟨bx, 0, none⟩)] w _
  have HK := Lib.hid (fun V (hV : Below W.heap.size W V) => (⟨cells7 (k1.below hV (by omega)), (hV.cell (p := ⟨bx, 0, none⟩) (by simp; omega)).trans k3⟩ : _ ∧ _))
  have HB := Lib.hid kb
  obtain ⟨q, hq⟩ : ∃ q, q = cntL l L := ⟨_, rfl⟩
  rw [← hq] at HA ⊢
  obtain ⟨m, hml⟩ : ∃ m, m = L.length := ⟨_, rfl⟩
  rw [← hml] at HA HK hm k3 ⊢
  have hqm : q ≤ m := by rw [hq, hml]; exact cntL_le l L
  simp only [ints, List.map_cons, List.map_nil] at hW HA
  clear h hM hp hP hq hml k1 k3 hbx kb
  have HSZ := Lib.hid k2
  have hBW : w.heap.size < W.heap.size := by omega
  clear k2
  go_enter Try.func102, Try.ntmps102
  go_wp2
  rw [← hW]
  clear hW
  generalize hB : w.heap.size = B at *
  have HBB := Lib.hid hB
  clear hB
  have HST := Lib.hid (fun (V V' : World) (h1 : Below W.heap.size W V) (h2 : Below V.heap.size V V') => h1.trans (h2.mono (by have := h1.size; omega)))
  go_region_held3 (fun V => (V.cell? ⟨B, 0, none⟩ = some (.int .i64 a0) ∧ V.cell? ⟨B, 1, none⟩ = some (.int .i64 a1) ∧ V.cell? ⟨B, 2, none⟩ = some (.int .i64 a2) ∧ V.cell? ⟨B, 3, none⟩ = some (.int .i64 a3) ∧ V.cell? ⟨B, 4, none⟩ = some (.int .i64 a4) ∧ V.cell? ⟨B, 5, none⟩ = some (.int .i64 a5) ∧ V.cell? ⟨B, 6, none⟩ = some (.int .i64 a6)) ∧ V.cell? ⟨bx, 0, none⟩ = some (.slice A m c))
    (first
      | exact HK.out _ (Below.refl _ _).drew
      | exact HK.out _ HB1.out)
    (first
      | (go_at_call 75; refine (HA.out _ (Below.refl _ W).drew).mono ?_; rintro e w5 ⟨rfl, hb⟩; have HB1 := Lib.hid (HST.out _ _ (Below.refl _ W).drew hb); clear hb))
  all_goals
    go_wp2
    go_ret
    exact ⟨rfl, by rw [HBB.out]; exact HB.out.trans (HB1.out.mono (by omega))⟩

set_option maxRecDepth 10000 in
set_option maxHeartbeats 1000000 in
theorem agreeing_any (n : Nat) (v : Value) (C : Nat) (L : List (List Int)) (w : World) (h : RowN w C 52 3 v L) (h3 : 3 ≤ n) (h6 : n ≤ 6) (hm : L.length ≤ 1000) (hT : ∀ t ∈ L, Thr (n : Int) t) :
    Calls Try.prog 71 #[.int .i64 (n : Int), v] w fun e w' => ∃ v', e = .returned v' ∧ RowN w' w.heap.size 48 7 v' (padM (agreeL n L)) ∧ Below w.heap.size w w' := by
  obtain ⟨A, c, rfl⟩ := h.slice
  obtain ⟨W, hW⟩ : ∃ W, W = w.alloc (.cells #[.slice A L.length c] 61) := ⟨_, rfl⟩
  have kb : Below w.heap.size w W := by rw [hW]; exact (Below.refl _ _).alloc (Nat.le_refl _) _
  have k2 : W.heap.size = w.heap.size + 1 := by rw [hW]; simp
  have k3 : W.cell? ⟨w.heap.size, 0, none⟩ = some (.slice A L.length c) := by rw [hW]; simp
  have k4 := h.below kb (fun i hi => (h.lt i hi).2)
  have HF : Hid (∀ V, Below W.heap.size W V → ∀ P ∈ padM (ringsL n), Calls Try.prog 102 #[.agg (ints P).toArray, .pointer (some ⟨w.heap.size, 0, none⟩)] V fun e w' => e = .returned (.bool (decide (cntL (unpad P) L < L.length))) ∧ Below V.heap.size V w') := fun V hV P hP => by
    simp only [padM, List.mem_map] at hP
    obtain ⟨l, hl, rfl⟩ := hP
    have hI := ringsL_is n h3 h6 l hl
    rw [unpad_pad l hI.2.1]
    exact agreeing1_any l w.heap.size _ C L V ((hV.cell (p := ⟨w.heap.size, 0, none⟩) (by simp; omega)).trans k3) (k4.below hV (fun i hi => by have := (h.lt i hi).2; omega)) (by rw [hI.1]; omega) (by rw [hI.1]; omega) hI.2.1 hm (hI.mem3 hT)
  have hpl : (padM (ringsL n)).length ≤ 1000 := by have := (facM_eq n h3 h6).2.1; simp [padM, ringsL_length]; omega
  have HPL := Lib.hid hpl
  have HR : Hid ((padM (ringsL n)).filter (fun P => !decide (cntL (unpad P) L < L.length)) = padM (agreeL n L)) := by
    rw [Hid, filter_pad (ringsL n) (fun l => !decide (cntL l L < L.length)) (fun l hl => (ringsL_is n h3 h6 l hl).2.1)]
    congr 1
    unfold agreeL
    congr 1
    funext l
    have := cntL_le l L
    simp only [← decide_not, decide_eq_decide]
    omega
  clear h hT k3 k4 hpl
  have HB := Lib.hid kb
  have HSZ := Lib.hid k2
  have hBW : w.heap.size ≤ W.heap.size := by omega
  clear kb k2
  go_enter Try.func71, Try.ntmps71
  go_wp2_with fail
  rw [← hW]
  clear hW
  generalize hBB : w.heap.size = B at *
  have HBB := Lib.hid hBB
  clear hBB
  refine (allRings_any n W h3 h6).mono ?_
  rintro e w1 ⟨v1, rfl, hr1, hb1⟩
  have HR1 := Lib.hid hr1
  have HB1 := Lib.hid hb1
  have hs1 := hb1.size
  clear hr1 hb1
  go_wp2_with fail
  refine (deleteF_ring 102 (enters_fn Try.func102 (by decide) rfl) (.pointer (some ⟨B, 0, none⟩)) (fun P => decide (cntL (unpad P) L < L.length)) W.heap.size v1 _ w1 HR1.out hs1 HPL.out (fun V hV => HF.out V (HB1.out.trans hV))).mono ?_
  rintro e w2 ⟨v2, rfl, hr2, hb2⟩
  rw [HR.out] at hr2
  go_wp2
  go_ret
  exact ⟨_, rfl, by rw [HBB.out]; exact hr2.less hBW, by rw [HBB.out]; exact (HB.out.trans (HB1.out.mono hBW)).trans (hb2.mono hBW)⟩
end Go.Proofs.Ytdlgabefbomleaa
