/- The threes that all of some rings have: the program's two closures. -/
import Derived.Test.YthfbllgfcidhkaaAgree
namespace Go.Proofs.Ythfbllgfcidhkaa
open Go.ChangeShapes Go.WideShapes Go.ChangeAt Go.RowKit

def sharedL (n : Nat) (R : List (List Int)) : List (List Int) := (everyL n).filter fun t => R.all fun l => has3 l t

set_option maxRecDepth 10000 in
set_option maxHeartbeats 1000000 in
theorem shared11_any (l : List Int) (bt : Nat) (x y z : Int) (w : World) (hbt : Tri w bt [x, y, z]) (h1 : 1 ≤ l.length) (hl : l.length ≤ 7) (hp : ∀ x ∈ l, 0 ≤ x) (hx : x ∈ l) (hy : y ∈ l) (hz : z ∈ l) :
    Calls Try.prog 77 #[.agg (ints (padR l)).toArray, .pointer (some ⟨bt, 0, none⟩)] w fun e w' => e = .returned (.bool (!has3 l [x, y, z])) ∧ Below w.heap.size w w' := by
  have HC := Lib.hid (fun W => hasThree_any l x y z W h1 hl hp hx hy hz)
  have H7 := Lib.hid (padR_length l hl)
  have HA := Lib.hid (heap_alloc_new w (.cells (ints (padR l)).toArray 59))
  have HT := Lib.hid (hbt.alloc (.cells (ints (padR l)).toArray 59))
  obtain ⟨a0, a1, a2, a3, a4, a5, a6, hP⟩ := seven H7.out
  unfold agp at HC
  rw [hP] at HC HA HT ⊢
  change Hid (Arr _ w.heap.size [a0, a1, a2, a3, a4, a5, a6]) at HA
  change Hid (Tri _ bt [x, y, z]) at HT
  simp only [ints, List.map_cons, List.map_nil] at HA HT HC
  change Calls Try.prog 77 #[ag a0 a1 a2 a3 a4 a5 a6, .pointer (some ⟨bt, 0, none⟩)] w _
  have hbw : bt < w.heap.size := hbt.lt
  clear hbt hP H7 hp hx hy hz
  obtain ⟨r, hr⟩ : ∃ r, r = has3 l [x, y, z] := ⟨_, rfl⟩
  rw [← hr] at HC ⊢
  clear hr
  go_enter Try.func77, Try.ntmps77
  go_wp2_with (first
    | (refine load_ring rfl _ rfl w.heap.size [a0, a1, a2, a3, a4, a5, a6] rfl rfl HA ?_)
    | (refine load_tri rfl _ rfl bt [x, y, z] rfl rfl HT ?_)
    | (go_at_call 78; refine (HC.out _).mono ?_; rintro e w5 ⟨rfl, hb5⟩))
  go_ret
  exact ⟨rfl, ((Below.refl _ _).alloc (Nat.le_refl _) _).trans (hb5.mono (by simp))⟩

set_option maxRecDepth 10000 in
set_option maxHeartbeats 1000000 in
theorem containsF_any (fid : Nat) (hE : ∀ args w, (callFunc fid args).run Try.prog w = .ok (.enter fid args) w) (cap : Value) (p : List Int → Bool) (D E : Nat) (v : Value) (M : List (List Int)) (w : World) (h : RowN w D 59 7 v M) (hD : E ≤ w.heap.size) (hM : M.length ≤ 1000)
    (hf : ∀ W, Below E w W → ∀ l ∈ M, Calls Try.prog fid #[.agg (ints l).toArray, cap] W fun e w' => e = .returned (.bool (p l)) ∧ Below W.heap.size W w') :
    Calls Try.prog 76 #[v, .func (.func fid) #[] #[cap]] w fun e w' => e = .returned (.bool (M.any p)) ∧ Below w.heap.size w w' := by
  have HI := Lib.hid (indexF_ring fid hE cap p D E v M w h hD hM hf)
  have hv : decide (0 ≤ idxR p M) = M.any p := by
    unfold idxR
    cases hany : M.any p with
    | true =>
      have : M.findIdx p < M.length := by
        rw [List.findIdx_lt_length]
        simpa [List.any_eq_true] using hany
      rw [if_pos this]; simp
    | false =>
      rw [if_neg]
      · rfl
      · rw [List.findIdx_lt_length]
        rintro ⟨l, hl, hp⟩
        have := List.any_eq_true.2 ⟨l, hl, hp⟩
        rw [hany] at this; cases this
  rw [← hv]
  clear h hf hv
  generalize idxR p M = i at *
  go_enter Try.func76, Try.ntmps76
  go_wp2_with (go_at_call 98; refine HI.out.mono ?_; rintro e w5 ⟨rfl, hb5⟩)
  go_ret
  exact ⟨rfl, hb5⟩

set_option maxRecDepth 10000 in
set_option maxHeartbeats 1000000 in
theorem shared1_any (n : Nat) (bx : Nat) (v : Value) (D : Nat) (R : List (List Int)) (t : List Int) (w : World) (hbx : w.cell? ⟨bx, 0, none⟩ = some v) (h : RowN w D 59 7 v (padM R)) (hR : ∀ l ∈ R, IsR n l) (h3 : 3 ≤ n) (h7 : n ≤ 7) (hm : R.length ≤ 1000) (ht : Thr (n : Int) t) :
    Calls Try.prog 75 #[.agg (ints t).toArray, .pointer (some ⟨bx, 0, none⟩)] w fun e w' => e = .returned (.bool (!R.all fun l => has3 l t)) ∧ Below w.heap.size w w' := by
  obtain ⟨x, y, z, rfl⟩ := of_three ht.1
  have hM3 := fun l (hl : l ∈ R) => (hR l hl).mem3 (L := [[x, y, z]]) (fun r hr => by rw [List.mem_singleton.1 hr]; exact ht)
  have hbw : bx < w.heap.size := World.block_lt_of_cell? w _ hbx
  have hE := enters_fn Try.func77 (by decide) rfl
  obtain ⟨W, hW⟩ : ∃ W, W = w.alloc (.cells (ints [x, y, z]).toArray 74) := ⟨_, rfl⟩
  have kb : Below w.heap.size w W := by rw [hW]; exact (Below.refl _ _).alloc (Nat.le_refl _) _
  have k1 : Tri W w.heap.size [x, y, z] := by rw [hW]; exact Blk.new w _
  have k2 : W.heap.size = w.heap.size + 1 := by rw [hW]; simp
  have k3 : W.cell? ⟨bx, 0, none⟩ = some v := (kb.cell (p := ⟨bx, 0, none⟩) hbw).trans hbx
  have k4 := h.below kb (fun i hi => (h.lt i hi).2)
  have HCF := Lib.hid (containsF_any 77 hE (.pointer (some ⟨w.heap.size, 0, none⟩)) (fun P => !has3 (unpad P) [x, y, z]) D W.heap.size v (padM R) W k4 (Nat.le_refl _) (by simpa [padM] using hm) (fun V hV P hP => by
    simp only [padM, List.mem_map] at hP
    obtain ⟨l, hl, rfl⟩ := hP
    have hI := hR l hl
    rw [unpad_pad l hI.2.1]
    obtain ⟨x', y', z', e, gx, gy, gz⟩ := hM3 l hl [x, y, z] (by simp)
    injection e with e4 e5
    injection e5 with e5 e6
    injection e6 with e6 _
    subst e4; subst e5; subst e6
    exact shared11_any l w.heap.size x y z V (k1.below hV (by omega)) (by rw [hI.1]; omega) (by rw [hI.1]; omega) hI.2.1 gx gy gz))
  have hany : (padM R).any (fun P => !has3 (unpad P) [x, y, z]) = !R.all fun l => has3 l [x, y, z] := by
    have e : ∀ R : List (List Int), (∀ l ∈ R, IsR n l) → (padM R).any (fun P => !has3 (unpad P) [x, y, z]) = !R.all fun l => has3 l [x, y, z] := by
      intro R hR
      induction R with
      | nil => rfl
      | cons l R ih =>
        have ih' := ih (fun r hr => hR r (by simp [hr]))
        simp only [padM, List.map_cons, List.any_cons, List.all_cons] at ih' ⊢
        rw [ih', unpad_pad l (hR l (by simp)).2.1, Bool.not_and]
    exact e R hR
  rw [hany] at HCF
  simp only [ints, List.map_cons, List.map_nil] at hW
  have k3w := k3
  rw [hW] at k3w
  change Calls Try.prog 75 #[.agg #[.int .i64 x, .int .i64 y, .int .i64 z], .pointer (some ⟨bx, 0, none⟩)] w _
  have HKB := Lib.hid kb
  have HSZ := Lib.hid k2
  clear h hR hM3 k1 k2 k4 hany kb hE hbx ht
  obtain ⟨r, hr⟩ : ∃ r, r = R.all (fun l => has3 l [x, y, z]) := ⟨_, rfl⟩
  rw [← hr] at HCF ⊢
  clear hr
  go_enter Try.func75, Try.ntmps75
  go_wp2_with fail
  rw [← hW]
  refine HCF.out.mono ?_
  rintro e w5 ⟨rfl, hb5⟩
  go_wp2
  go_ret
  exact ⟨rfl, HKB.out.trans (hb5.mono (by have := HSZ.out; omega))⟩

set_option maxRecDepth 10000 in
set_option maxHeartbeats 1000000 in
theorem shared_any (n : Nat) (v : Value) (D : Nat) (R : List (List Int)) (w : World) (h : RowN w D 59 7 v (padM R)) (hR : ∀ l ∈ R, IsR n l) (h3 : 3 ≤ n) (h7 : n ≤ 7) (hm : R.length ≤ 1000) :
    Calls Try.prog 50 #[.int .i64 (n : Int), v] w fun e w' => ∃ v', e = .returned v' ∧ RowN w' w.heap.size 74 3 v' (sharedL n R) ∧ Below w.heap.size w w' := by
  obtain ⟨A, c, rfl⟩ := h.slice
  obtain ⟨W, hW⟩ : ∃ W, W = w.alloc (.cells #[.slice A (padM R).length c] 68) := ⟨_, rfl⟩
  have kb : Below w.heap.size w W := by rw [hW]; exact (Below.refl _ _).alloc (Nat.le_refl _) _
  have k2 : W.heap.size = w.heap.size + 1 := by rw [hW]; simp
  have k3 : W.cell? ⟨w.heap.size, 0, none⟩ = some (.slice A (padM R).length c) := by rw [hW]; simp
  have k4 := h.below kb (fun i hi => (h.lt i hi).2)
  have HF : Hid (∀ V, Below W.heap.size W V → ∀ t ∈ everyL n, Calls Try.prog 75 #[.agg (ints t).toArray, .pointer (some ⟨w.heap.size, 0, none⟩)] V fun e w' => e = .returned (.bool (!R.all fun l => has3 l t)) ∧ Below V.heap.size V w') := fun V hV t ht =>
    shared1_any n w.heap.size _ D R t V ((hV.cell (p := ⟨w.heap.size, 0, none⟩) (by simp; omega)).trans k3) (k4.below hV (fun i hi => by have := (h.lt i hi).2; omega)) hR h3 h7 hm ((every_thr n t).1 ht)
  have HEL := Lib.hid (everyL_len n h7)
  have HR : Hid ((everyL n).filter (fun t => !(!R.all fun l => has3 l t)) = sharedL n R) := by simp [Hid, sharedL]
  have hE := Lib.hid (enters_fn Try.func75 (by decide) rfl)
  clear h hR k3 k4
  have HB := Lib.hid kb
  have hBW : w.heap.size ≤ W.heap.size := by omega
  clear kb k2
  generalize (padM R).length = z at *
  go_enter Try.func50, Try.ntmps50
  go_wp2_with fail
  rw [← hW]
  clear hW
  generalize hBB : w.heap.size = B at *
  have HBB := Lib.hid hBB
  clear hBB
  refine (allThrees_any n W h7).mono ?_
  rintro e w1 ⟨v1, rfl, hr1, hb1⟩
  have HR1 := Lib.hid hr1
  have HB1 := Lib.hid hb1
  have hs1 := hb1.size
  clear hr1 hb1
  go_wp2_with fail
  refine (deleteF_three 75 hE.out (.pointer (some ⟨B, 0, none⟩)) (fun t => !R.all fun l => has3 l t) W.heap.size v1 _ w1 HR1.out hs1 (by have := HEL.out; omega) (fun V hV => HF.out V (HB1.out.trans hV))).mono ?_
  rintro e w2 ⟨v2, rfl, hr2, hb2⟩
  rw [HR.out] at hr2
  go_wp2
  go_ret
  exact ⟨_, rfl, by rw [HBB.out]; exact hr2.less hBW, by rw [HBB.out]; exact (HB.out.trans (HB1.out.mono hBW)).trans (hb2.mono hBW)⟩
end Go.Proofs.Ythfbllgfcidhkaa
