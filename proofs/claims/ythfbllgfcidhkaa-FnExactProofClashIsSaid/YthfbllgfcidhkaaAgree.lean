/- The program's rows of all rings and of those that agree. -/
import Derived.Test.YthfbllgfcidhkaaRings
import Derived.Deep.RegionHeld3
namespace Go.Proofs.Ythfbllgfcidhkaa
open Go.ChangeShapes Go.WideShapes Go.ChangeAt Go.RowKit

set_option maxRecDepth 10000 in
set_option maxHeartbeats 1000000 in
theorem agreeing1_any (l : List Int) (bx : Nat) (v : Value) (C : Nat) (L : List (List Int)) (w : World) (hbx : w.cell? ⟨bx, 0, none⟩ = some v) (h : RowN w C 74 3 v L) (h1 : 1 ≤ l.length) (hl : l.length ≤ 7) (hp : ∀ x ∈ l, 0 ≤ x) (hm : L.length ≤ 1000) (hM : Mem3 l L) :
    Calls Try.prog 85 #[.agg (ints (padR l)).toArray, .pointer (some ⟨bx, 0, none⟩)] w fun e w' => e = .returned (.bool (decide (cntL l L < L.length))) ∧ Below w.heap.size w w' := by
  obtain ⟨A, c, rfl⟩ := h.slice
  obtain ⟨W, hW⟩ : ∃ W, W = w.alloc (.cells (ints (padR l)).toArray 59) := ⟨_, rfl⟩
  have hbw : bx < w.heap.size := World.block_lt_of_cell? w _ hbx
  have k1 : Arr W w.heap.size (padR l) := by rw [hW]; exact heap_alloc_new w _
  have kb : Below w.heap.size w W := by rw [hW]; exact (Below.refl _ _).alloc (Nat.le_refl _) _
  have k2 : W.heap.size = w.heap.size + 1 := by rw [hW]; simp
  have k3 : W.cell? ⟨bx, 0, none⟩ = some (.slice A L.length c) := (kb.cell (p := ⟨bx, 0, none⟩) hbw).trans hbx
  have HA := Lib.hid (fun V (hV : Below W.heap.size W V) => agrees_any l (.slice A L.length c) C L V ((h.below kb (fun i hi => (h.lt i hi).2)).below hV (fun i hi => by have := (h.lt i hi).2; omega)) h1 hl hp hm hM)
  obtain ⟨a0, a1, a2, a3, a4, a5, a6, hP⟩ := seven (padR_length l hl)
  unfold agp at HA
  rw [hP] at HA k1 hW ⊢
  change Calls Try.prog 85 #[ag a0 a1 a2 a3 a4 a5 a6, .pointer (some ⟨bx, 0, none⟩)] w _
  have HK := Lib.hid (fun V (hV : Below W.heap.size W V) => (⟨cells7 (k1.below hV (by omega)), (hV.cell (p := ⟨bx, 0, none⟩) (by simp; omega)).trans k3⟩ : _ ∧ _))
  have HB := Lib.hid kb
  obtain ⟨q, hq⟩ : ∃ q, q = cntL l L := ⟨_, rfl⟩
  rw [← hq] at HA ⊢
  obtain ⟨m, hml⟩ : ∃ m, m = L.length := ⟨_, rfl⟩
  rw [← hml] at HA HK hm k3 ⊢
  have hqm : q ≤ m := by rw [hq, hml]; exact cntL_le l L
  simp only [ints, List.map_cons, List.map_nil] at hW HA
  clear h hM hp hP hq hml k1 k3 hbx kb
  have HSZ := Lib.hid k2
  have hBW : w.heap.size < W.heap.size := by omega
  clear k2
  go_enter Try.func85, Try.ntmps85
  go_wp2
  rw [← hW]
  clear hW
  generalize hB : w.heap.size = B at *
  have HBB := Lib.hid hB
  clear hB
  have HST := Lib.hid (fun (V V' : World) (h1 : Below W.heap.size W V) (h2 : Below V.heap.size V V') => h1.trans (h2.mono (by have := h1.size; omega)))
  go_region_held3 (fun V => (V.cell? ⟨B, 0, none⟩ = some (.int .i64 a0) ∧ V.cell? ⟨B, 1, none⟩ = some (.int .i64 a1) ∧ V.cell? ⟨B, 2, none⟩ = some (.int .i64 a2) ∧ V.cell? ⟨B, 3, none⟩ = some (.int .i64 a3) ∧ V.cell? ⟨B, 4, none⟩ = some (.int .i64 a4) ∧ V.cell? ⟨B, 5, none⟩ = some (.int .i64 a5) ∧ V.cell? ⟨B, 6, none⟩ = some (.int .i64 a6)) ∧ V.cell? ⟨bx, 0, none⟩ = some (.slice A m c))
    (first
      | exact HK.out _ (Below.refl _ _).drew
      | exact HK.out _ HB1.out)
    (first
      | (go_at_call 86; refine (HA.out _ (Below.refl _ W).drew).mono ?_; rintro e w5 ⟨rfl, hb⟩; have HB1 := Lib.hid (HST.out _ _ (Below.refl _ W).drew hb); clear hb))
  all_goals
    go_wp2
    go_ret
    exact ⟨rfl, by rw [HBB.out]; exact HB.out.trans (HB1.out.mono (by omega))⟩

set_option maxRecDepth 10000 in
set_option maxHeartbeats 1000000 in
theorem agreeing_any (n : Nat) (v : Value) (C : Nat) (L : List (List Int)) (w : World) (h : RowN w C 74 3 v L) (h3 : 3 ≤ n) (h6 : n ≤ 6) (hm : L.length ≤ 1000) (hT : ∀ t ∈ L, Thr (n : Int) t) :
    Calls Try.prog 55 #[.int .i64 (n : Int), v] w fun e w' => ∃ v', e = .returned v' ∧ RowN w' w.heap.size 59 7 v' (padM (agreeL n L)) ∧ Below w.heap.size w w' := by
  obtain ⟨A, c, rfl⟩ := h.slice
  obtain ⟨W, hW⟩ : ∃ W, W = w.alloc (.cells #[.slice A L.length c] 45) := ⟨_, rfl⟩
  have kb : Below w.heap.size w W := by rw [hW]; exact (Below.refl _ _).alloc (Nat.le_refl _) _
  have k2 : W.heap.size = w.heap.size + 1 := by rw [hW]; simp
  have k3 : W.cell? ⟨w.heap.size, 0, none⟩ = some (.slice A L.length c) := by rw [hW]; simp
  have k4 := h.below kb (fun i hi => (h.lt i hi).2)
  have HF : Hid (∀ V, Below W.heap.size W V → ∀ P ∈ padM (ringsL n), Calls Try.prog 85 #[.agg (ints P).toArray, .pointer (some ⟨w.heap.size, 0, none⟩)] V fun e w' => e = .returned (.bool (decide (cntL (unpad P) L < L.length))) ∧ Below V.heap.size V w') := fun V hV P hP => by
    simp only [padM, List.mem_map] at hP
    obtain ⟨l, hl, rfl⟩ := hP
    have hI := ringsL_is n h3 h6 l hl
    rw [unpad_pad l hI.2.1]
    exact agreeing1_any l w.heap.size _ C L V ((hV.cell (p := ⟨w.heap.size, 0, none⟩) (by simp; omega)).trans k3) (k4.below hV (fun i hi => by have := (h.lt i hi).2; omega)) (by rw [hI.1]; omega) (by rw [hI.1]; omega) hI.2.1 hm (hI.mem3 hT)
  have hpl : (padM (ringsL n)).length ≤ 1000 := by have := (facM_eq n h3 h6).2.1; simp [padM, ringsL_length]; omega
  have HPL := Lib.hid hpl
  have HR : Hid ((padM (ringsL n)).filter (fun P => !decide (cntL (unpad P) L < L.length)) = padM (agreeL n L)) := by
    rw [Hid, filter_pad (ringsL n) (fun l => !decide (cntL l L < L.length)) (fun l hl => (ringsL_is n h3 h6 l hl).2.1)]
    congr 1
    unfold agreeL
    congr 1
    funext l
    have := cntL_le l L
    simp only [← decide_not, decide_eq_decide]
    omega
  clear h hT k3 k4 hpl
  have HB := Lib.hid kb
  have HSZ := Lib.hid k2
  have hBW : w.heap.size ≤ W.heap.size := by omega
  clear kb k2
  go_enter Try.func55, Try.ntmps55
  go_wp2_with fail
  rw [← hW]
  clear hW
  generalize hBB : w.heap.size = B at *
  have HBB := Lib.hid hBB
  clear hBB
  refine (allRings_any n W h3 h6).mono ?_
  rintro e w1 ⟨v1, rfl, hr1, hb1⟩
  have HR1 := Lib.hid hr1
  have HB1 := Lib.hid hb1
  have hs1 := hb1.size
  clear hr1 hb1
  go_wp2_with fail
  refine (deleteF_ring 85 (enters_fn Try.func85 (by decide) rfl) (.pointer (some ⟨B, 0, none⟩)) (fun P => decide (cntL (unpad P) L < L.length)) W.heap.size v1 _ w1 HR1.out hs1 HPL.out (fun V hV => HF.out V (HB1.out.trans hV))).mono ?_
  rintro e w2 ⟨v2, rfl, hr2, hb2⟩
  rw [HR.out] at hr2
  go_wp2
  go_ret
  exact ⟨_, rfl, by rw [HBB.out]; exact hr2.less hBW, by rw [HBB.out]; exact (HB.out.trans (HB1.out.mono hBW)).trans (hb2.mono hBW)⟩
end Go.Proofs.Ythfbllgfcidhkaa
