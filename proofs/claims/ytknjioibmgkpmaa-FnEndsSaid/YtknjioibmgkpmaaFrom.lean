/- RingFrom of the model and of the program: the points between. -/
import Derived.Test.YtknjioibmgkpmaaStepsT
import Derived.Test.YtknjioibmgkpmaaCutT
import Derived.Test.YtknjioibmgkpmaaOwn
import Derived.Test.YtknjioibmgkpmaaList
namespace Go.Proofs.Ytknjioibmgkpmaa
open Go.ChangeShapes Go.WideShapes Go.ChangeAt Go.RowKit

theorem own_keep {w w' : World} {B D : Nat} {v : Value} {l : List Int} (h : Own w B v l) (hb : Below D w w') (hD : ∀ k, v.ownBlock = some k → k < D) : Own w' B v l := by
  refine ⟨h.1, ?_⟩
  rcases h.2 with e | ⟨g, cap, cur, hv, hg, hh, r⟩
  · exact .inl e
  · exact .inr ⟨g, cap, cur, hv, hg, by rw [hb.block g (hD g (by rw [hv]; rfl))]; exact hh, r⟩
theorem own_head {w : World} {B : Nat} {v : Value} {l : List Int} (h : Own w B v l) (hl : 0 < l.length) :
    ∃ g cap, v = .slice (some ⟨g, 0, none⟩) l.length cap ∧ l.length ≤ cap ∧ ∀ k, k < l.length → w.cell? ⟨g, k, none⟩ = some (.int .i64 (l.getD k 0)) := by
  rcases h.2 with ⟨_, h0⟩ | ⟨g, cap, cur, rfl, hg, hh, hnc, hcm, hcs, ht⟩
  · omega
  · refine ⟨g, cap, rfl, hnc, fun k hk => ?_⟩
    rw [h.cellAt k (by omega), ints_get _ _ hk]
theorem ownG_less {w : World} {B B' : Nat} {v : Value} {l : List Int} (h : OwnG w B v l) (hB : B' ≤ B) : OwnG w B' v l := by
  rcases h with h | ⟨g, o, c, cur, hv, hg, r⟩
  · exact .inl h
  · exact .inr ⟨g, o, c, cur, hv, Nat.le_trans hB hg, r⟩

/-- Where the points between x and y end on the list that begins with x. -/
def endN (l : List Int) (x y : Int) : Nat := if x = y then l.length else (stepsI l x y).toNat
def fromL (l : List Int) (x y : Int) : List Int := ((cutL l x).take (endN l x y)).drop 1
def fromR (l : List Int) (x y : Int) : List Int := if hasB2 l x y then fromL l x y else []

theorem steps_zero (l : List Int) (x y : Int) (ht : Tell l) (hx : x ∈ l) (hy : y ∈ l) : (stepsI l x y = 0 ↔ x = y) ∧ 0 ≤ stepsI l x y ∧ stepsI l x y < l.length := by
  have hix := List.idxOf_lt_length_of_mem hx
  have hiy := List.idxOf_lt_length_of_mem hy
  have h3 := ht.1
  unfold stepsI
  refine ⟨⟨fun h => ?_, fun h => by subst h; simp⟩, Int.emod_nonneg _ (by omega), Int.emod_lt_of_pos _ (by omega)⟩
  have hd := Int.dvd_of_emod_eq_zero h
  obtain ⟨k, hk⟩ := hd
  have hk0 : k = 0 := by
    rcases Int.lt_trichotomy k 0 with hlt | h0 | hgt
    · exfalso
      have : (l.length : Int) * k ≤ (l.length : Int) * (-1) := Int.mul_le_mul_of_nonneg_left (by omega) (by omega)
      omega
    · exact h0
    · exfalso
      have : (l.length : Int) * 1 ≤ (l.length : Int) * k := Int.mul_le_mul_of_nonneg_left (by omega) (by omega)
      omega
  rw [hk0] at hk
  have e : l.idxOf x = l.idxOf y := by omega
  rw [← at_idx l x hx, e, at_idx l y hy]

theorem endN_of (l : List Int) (x y : Int) (ht : Tell l) (hx : x ∈ l) (hy : y ∈ l) :
    1 ≤ endN l x y ∧ endN l x y ≤ l.length ∧ (if stepsI l x y = 0 then (endN l x y : Int) = l.length else (endN l x y : Int) = stepsI l x y) := by
  obtain ⟨h1, h2, h3⟩ := steps_zero l x y ht hx hy
  have h4 := ht.1
  unfold endN
  by_cases e : x = y
  · rw [if_pos e, if_pos (h1.2 e)]
    omega
  · have hne : ¬ stepsI l x y = 0 := fun h => e (h1.1 h)
    rw [if_neg e, if_neg hne]
    omega
theorem fromL_length (l : List Int) (x y : Int) (h : endN l x y ≤ (cutL l x).length) : (fromL l x y).length = endN l x y - 1 := by
  unfold fromL
  rw [List.length_drop, List.length_take]
  omega
theorem fromL_get (l : List Int) (x y : Int) (j : Nat) (hj : j < endN l x y - 1) (_ : endN l x y ≤ (cutL l x).length) : (fromL l x y).getD j 0 = (cutL l x).getD (1 + j) 0 := by
  unfold fromL
  simp only [List.getD, List.getElem?_drop, List.getElem?_take]
  rw [if_pos (by omega)]
theorem fromR_length (l : List Int) (x y : Int) : (fromR l x y).length ≤ 7 := by
  unfold fromR
  split
  · rename_i h
    simp only [hasB2, Bool.and_eq_true] at h
    have h3 := hasB_yes h.1
    have := h3.1.1.2.1
    unfold fromL
    rw [List.length_drop, List.length_take, cutL_length]
    omega
  · simp

set_option maxHeartbeats 1000000 in
theorem between_any (l : List Int) (x y : Int) (w : World) (ht : Tell l) (hx : x ∈ l) (hy : y ∈ l) :
    Calls Try.prog 44 #[agp l, .int .i64 x, .int .i64 y] w fun e w' => ∃ v, e = .returned v ∧ OwnG w' w.heap.size v (fromL l x y) ∧ Below w.heap.size w w' := by
  have hl7 := ht.2.1
  have hl3 := ht.1
  obtain ⟨a0, a1, a2, a3, a4, a5, a6, hP⟩ := seven (padR_length l hl7)
  have HS := fun W => Lib.hid (size_any l W hl7 ht.pos)
  have HT := fun W => Lib.hid (steps_any l x y W (by omega) hl7 ht.pos hx hy)
  have HC := fun W => Lib.hid (cut_any l x W (by omega) hl7 ht.pos hx)
  have HLI := fun W => Lib.hid (list_any (cutL l x) W (by rw [cutL_length]; omega) (by rw [cutL_length]; exact hl7) (cutL_pos l x ht))
  obtain ⟨e1, e2, e3⟩ := endN_of l x y ht hx hy
  have hz := (steps_zero l x y ht hx hy).1
  have hCL : Hid ((cutL l x).length = l.length) := cutL_length l x
  have hFL : Hid (∀ j, j < endN l x y - 1 → (fromL l x y).getD j 0 = (cutL l x).getD (1 + j) 0) := fun j hj => fromL_get l x y j hj (by rw [cutL_length]; exact e2)
  have hFN : Hid ((fromL l x y).length = endN l x y - 1) := fromL_length l x y (by rw [cutL_length]; exact e2)
  unfold agp at HS HT HC HLI ⊢
  rw [hP] at HS HT HC ⊢
  have HSS := Lib.hid HS
  have HTT := Lib.hid HT
  have HCC := Lib.hid HC
  have HLL := Lib.hid HLI
  have HE3 := Lib.hid e3
  have HZ := Lib.hid hz
  clear HS HT HC HLI hP hx hy ht e3 hz
  generalize l.length = n at *
  generalize stepsI l x y = st at *
  generalize fromL l x y = R at *
  generalize endN l x y = q at *
  generalize cutL l x = C at *
  generalize padR C = Q at *
  show Calls Try.prog 44 #[ag a0 a1 a2 a3 a4 a5 a6, .int .i64 x, .int .i64 y] w _
  have k0 : Arr (w.alloc (.cells #[.int .i64 a0, .int .i64 a1, .int .i64 a2, .int .i64 a3, .int .i64 a4, .int .i64 a5, .int .i64 a6] 55)) w.heap.size [a0, a1, a2, a3, a4, a5, a6] := heap_alloc_new w _
  have HA0 := Lib.hid k0
  have HB0 := Lib.hid ((Below.refl w.heap.size w).alloc (Nat.le_refl _) (.cells #[.int .i64 a0, .int .i64 a1, .int .i64 a2, .int .i64 a3, .int .i64 a4, .int .i64 a5, .int .i64 a6] 55))
  clear k0
  by_cases hxy : x = y
  · have hst := HZ.out.2 hxy
    obtain rfl : q = n := by have := HE3.out; rw [if_pos hst] at this; omega
    subst hst
    have hb : (x == y) = true := by simp [hxy]
    clear hxy HZ HE3
    go_enter Try.func44, Try.ntmps44
    go_wp2_with (refine load_ring rfl _ rfl w.heap.size [a0, a1, a2, a3, a4, a5, a6] rfl rfl HA0 ?_)
    refine ((HTT.out _).out).mono ?_
    rintro e W1 ⟨rfl, hb1⟩
    have HA1 := Lib.hid (HA0.out.below hb1 (by simp))
    have HB1 := Lib.hid (HB0.out.trans (hb1.mono (by simp)))
    have hs1 := hb1.size
    clear hb1 HA0 HB0
    go_wp2_with (refine load_ring rfl _ rfl w.heap.size [a0, a1, a2, a3, a4, a5, a6] rfl rfl HA1 ?_)
    refine ((HSS.out _).out).mono ?_
    rintro e W2 ⟨rfl, hW2⟩
    have HA2 : Hid (Arr W2 w.heap.size [a0, a1, a2, a3, a4, a5, a6]) := by rw [Hid, hW2]; exact HA1.out.alloc _
    have HB2 : Hid (Below w.heap.size w W2) := by rw [Hid, hW2]; exact HB1.out.alloc (by simp at hs1; omega) _
    have hs2 : w.heap.size < W2.heap.size := HA2.out.lt
    clear hW2 HA1 HB1 hs1
    go_wp2_with (refine load_ring rfl _ rfl w.heap.size [a0, a1, a2, a3, a4, a5, a6] rfl rfl HA2 ?_)
    refine ((HCC.out _).out).mono ?_
    rintro e W3 ⟨rfl, hb3⟩
    have HB3 := Lib.hid (HB2.out.trans (hb3.mono (by omega)))
    have hs3 := hb3.size
    clear hb3 HB2 HA2
    go_wp2_with fail
    refine ((HLL.out _).out).mono ?_
    rintro e W4 ⟨v, rfl, ho, hb4⟩
    have HB4 := Lib.hid (HB3.out.trans (hb4.mono (by omega)))
    clear HB3 hb4
    rcases ho.2 with ⟨_, h0⟩ | ⟨g, cap, cur, rfl, hg, hh, hnc, _, _, htk⟩
    · exfalso
      have := hCL.out
      omega
    · have HG : Hid (OwnG W4 w.heap.size (.slice (some ⟨g, 1, none⟩) (q - 1) (cap - 1)) R) := by
        refine .inr ⟨g, 1, cap - 1, cur, by rw [hFN.out], by omega, hh, fun j hj => ?_⟩
        rw [hFN.out] at hj
        have h1 : (cur.toList.take (C.length * 1))[1 + j]? = (ints C)[1 + j]? := by rw [htk]
        rw [List.getElem?_take, if_pos (by have := hCL.out; omega), ints_get C (1 + j) (by have := hCL.out; omega)] at h1
        rw [hFL.out j hj]
        simpa using h1
      rw [hCL.out] at hnc ⊢
      have hcap : ¬ cap = 1 := by omega
      clear ho hg hh htk
      go_wp2
      go_ret
      exact ⟨_, rfl, HG.out, HB4.out⟩
  · have hst : ¬ st = 0 := fun h => hxy (HZ.out.1 h)
    have hq : st = (q : Int) := by have := HE3.out; rw [if_neg hst] at this; omega
    subst hq
    have hb : (x == y) = false := by simp [hxy]
    clear hxy HZ HE3 hst
    go_enter Try.func44, Try.ntmps44
    go_wp2_with (refine load_ring rfl _ rfl w.heap.size [a0, a1, a2, a3, a4, a5, a6] rfl rfl HA0 ?_)
    refine ((HTT.out _).out).mono ?_
    rintro e W2 ⟨rfl, hb1⟩
    have HA2 := Lib.hid (HA0.out.below hb1 (by simp))
    have HB2 := Lib.hid (HB0.out.trans (hb1.mono (by simp)))
    have hs2 : w.heap.size < W2.heap.size := HA2.out.lt
    clear hb1 HA0 HB0
    go_wp2_with (refine load_ring rfl _ rfl w.heap.size [a0, a1, a2, a3, a4, a5, a6] rfl rfl HA2 ?_)
    refine ((HCC.out _).out).mono ?_
    rintro e W3 ⟨rfl, hb3⟩
    have HB3 := Lib.hid (HB2.out.trans (hb3.mono (by omega)))
    have hs3 := hb3.size
    clear hb3 HB2 HA2
    go_wp2_with fail
    refine ((HLL.out _).out).mono ?_
    rintro e W4 ⟨v, rfl, ho, hb4⟩
    have HB4 := Lib.hid (HB3.out.trans (hb4.mono (by omega)))
    clear HB3 hb4
    rcases ho.2 with ⟨_, h0⟩ | ⟨g, cap, cur, rfl, hg, hh, hnc, _, _, htk⟩
    · exfalso
      have := hCL.out
      omega
    · have HG : Hid (OwnG W4 w.heap.size (.slice (some ⟨g, 1, none⟩) (q - 1) (cap - 1)) R) := by
        refine .inr ⟨g, 1, cap - 1, cur, by rw [hFN.out], by omega, hh, fun j hj => ?_⟩
        rw [hFN.out] at hj
        have h1 : (cur.toList.take (C.length * 1))[1 + j]? = (ints C)[1 + j]? := by rw [htk]
        rw [List.getElem?_take, if_pos (by have := hCL.out; omega), ints_get C (1 + j) (by have := hCL.out; omega)] at h1
        rw [hFL.out j hj]
        simpa using h1
      rw [hCL.out] at hnc ⊢
      have hcap : ¬ cap = 1 := by omega
      clear ho hg hh htk
      go_wp2
      go_ret
      exact ⟨_, rfl, HG.out, HB4.out⟩

set_option maxHeartbeats 2000000 in
theorem frI_any (A : Option Addr) (n c H : Nat) (l : List Int) (x y : Int) (w : World) (h : Rd w H A n l) (hH : H ≤ w.heap.size) (hn : n ≤ 1048576) (hnc : n ≤ c) (hcm : c ≤ 9223372036854775807) :
    Calls Try.prog 16 #[.slice A n c, .int .i64 x, .int .i64 y] w fun e w' => ∃ v, e = .returned (.tuple #[v, .bool (hasB2 l x y)]) ∧ OwnG w' w.heap.size v (fromR l x y) ∧ Below w.heap.size w w' := by
  have hread := Lib.hid (readR_any A n c H l w h hH hn hnc hcm)
  by_cases hr : Ring l
  · have hl7 := hr.1.2.1
    obtain ⟨a0, a1, a2, a3, a4, a5, a6, hP⟩ := seven (padR_length l hl7)
    have hrp : ringP l = [a0, a1, a2, a3, a4, a5, a6] := by rw [ringP, if_pos hr, hP]
    have hhx := fun W => Lib.hid (has_any l x W hl7 hr.1.pos)
    have hhy := fun W => Lib.hid (has_any l y W hl7 hr.1.pos)
    have hix : hasB l x = decide (0 ≤ x ∧ x < l.length) := by rw [hasB, ring_yes hr, Bool.true_and]
    have hiy : hasB l y = decide (0 ≤ y ∧ y < l.length) := by rw [hasB, ring_yes hr, Bool.true_and]
    rw [← hix] at hhx
    rw [← hiy] at hhy
    unfold agp at hhx hhy
    rw [hP] at hhx hhy
    rw [hrp, ring_yes hr] at hread
    simp only [ints, List.map_cons, List.map_nil] at hhx hhy hread
    have HX := Lib.hid hhx
    have HY := Lib.hid hhy
    clear hhx hhy hix hiy hrp
    unfold fromR hasB2
    cases htx : hasB l x
    · rw [htx] at HX
      rw [Bool.false_and, if_neg (by simp)]
      clear htx hr hP hl7 HY
      go_enter Try.func16, Try.ntmps16
      go_wp2_with fail
      refine hread.out.mono ?_
      rintro e W1 ⟨rfl, hb1⟩
      have HA := Lib.hid (new_ring W1)
      go_wp2_with (refine store_ring rfl _ _ rfl W1.heap.size zero7 [a0, a1, a2, a3, a4, a5, a6] rfl rfl rfl rfl HA ?_; intro w2 HA2 hg2 hs2; obtain ⟨c0, c1, c2, c3, c4, c5, c6⟩ := cells7 HA2.out; clear hs2)
      have hb2 := Lib.hid ((hb1.alloc hb1.size (.cells #[.int .i64 0, .int .i64 0, .int .i64 0, .int .i64 0, .int .i64 0, .int .i64 0, .int .i64 0] 55)).grown hg2 (by have := hb1.size; simp; omega) (by have := hb1.size; simp; omega))
      clear hg2 hb1
      refine ((HX.out _).out).mono ?_
      rintro e w3 ⟨rfl, hb3⟩
      have hb4 := Lib.hid (hb2.out.trans (hb3.mono hb2.out.size))
      clear hb3 c0 c1 c2 c3 c4 c5 c6
      go_wp2
      go_ret2
      exact ⟨_, rfl, .inl ⟨rfl, rfl⟩, hb4.out⟩
    · rw [htx] at HX
      cases hty : hasB l y
      · rw [hty] at HY
        rw [Bool.and_false, if_neg (by simp)]
        clear htx hty hr hP hl7
        go_enter Try.func16, Try.ntmps16
        go_wp2_with fail
        refine hread.out.mono ?_
        rintro e W1 ⟨rfl, hb1⟩
        have HA := Lib.hid (new_ring W1)
        go_wp2_with (refine store_ring rfl _ _ rfl W1.heap.size zero7 [a0, a1, a2, a3, a4, a5, a6] rfl rfl rfl rfl HA ?_; intro w2 HA2 hg2 hs2; obtain ⟨c0, c1, c2, c3, c4, c5, c6⟩ := cells7 HA2.out; clear hs2)
        have hb2 := Lib.hid ((hb1.alloc hb1.size (.cells #[.int .i64 0, .int .i64 0, .int .i64 0, .int .i64 0, .int .i64 0, .int .i64 0, .int .i64 0] 55)).grown hg2 (by have := hb1.size; simp; omega) (by have := hb1.size; simp; omega))
        clear hg2 hb1
        refine ((HX.out _).out).mono ?_
        rintro e w3 ⟨rfl, hb3⟩
        have hb4 := Lib.hid (hb2.out.trans (hb3.mono hb2.out.size))
        have HA3 := Lib.hid (HA2.out.below hb3 HA2.out.lt)
        obtain ⟨d0, d1, d2, d3, d4, d5, d6⟩ := cells7 HA3.out
        clear hb3 c0 c1 c2 c3 c4 c5 c6
        go_wp2_with fail
        refine ((HY.out _).out).mono ?_
        rintro e w4 ⟨rfl, hb5⟩
        have hb6 := Lib.hid (hb4.out.trans (hb5.mono hb4.out.size))
        clear hb5 d0 d1 d2 d3 d4 d5 d6
        go_wp2
        go_ret2
        exact ⟨_, rfl, .inl ⟨rfl, rfl⟩, hb6.out⟩
      · rw [hty] at HY
        have hcut := fun W => Lib.hid (between_any l x y W hr.1 (hasB_yes htx).2.2.2 (hasB_yes hty).2.2.2)
        rw [Bool.and_true, if_pos rfl]
        unfold agp at hcut
        rw [hP] at hcut
        have HC := Lib.hid hcut
        clear htx hty hr hP hl7 hcut
        generalize fromL l x y = r at *
        go_enter Try.func16, Try.ntmps16
        go_wp2_with fail
        refine hread.out.mono ?_
        rintro e W1 ⟨rfl, hb1⟩
        have HA := Lib.hid (new_ring W1)
        go_wp2_with (refine store_ring rfl _ _ rfl W1.heap.size zero7 [a0, a1, a2, a3, a4, a5, a6] rfl rfl rfl rfl HA ?_; intro w2 HA2 hg2 hs2; obtain ⟨c0, c1, c2, c3, c4, c5, c6⟩ := cells7 HA2.out; clear hs2)
        have hb2 := Lib.hid ((hb1.alloc hb1.size (.cells #[.int .i64 0, .int .i64 0, .int .i64 0, .int .i64 0, .int .i64 0, .int .i64 0, .int .i64 0] 55)).grown hg2 (by have := hb1.size; simp; omega) (by have := hb1.size; simp; omega))
        clear hg2 hb1
        refine ((HX.out _).out).mono ?_
        rintro e w3 ⟨rfl, hb3⟩
        have hb4 := Lib.hid (hb2.out.trans (hb3.mono hb2.out.size))
        have HA3 := Lib.hid (HA2.out.below hb3 HA2.out.lt)
        obtain ⟨d0, d1, d2, d3, d4, d5, d6⟩ := cells7 HA3.out
        clear hb3 c0 c1 c2 c3 c4 c5 c6
        go_wp2_with fail
        refine ((HY.out _).out).mono ?_
        rintro e w4 ⟨rfl, hb5⟩
        have hb6 := Lib.hid (hb4.out.trans (hb5.mono hb4.out.size))
        have HA4 := Lib.hid (HA3.out.below hb5 HA3.out.lt)
        clear hb5 d0 d1 d2 d3 d4 d5 d6
        go_wp2_with (refine load_ring rfl _ rfl W1.heap.size [a0, a1, a2, a3, a4, a5, a6] rfl rfl HA4 ?_)
        refine ((HC.out _).out).mono ?_
        rintro e w5 ⟨v, rfl, ho, hb7⟩
        have HO := Lib.hid (ownG_less ho hb6.out.size)
        have hb8 := Lib.hid (hb6.out.trans (hb7.mono hb6.out.size))
        clear hb7 ho
        go_wp2
        go_ret2
        exact ⟨_, rfl, HO.out, hb8.out⟩
  · have ht : hasB2 l x y = false := by rw [hasB2, hasB, ring_no hr, Bool.false_and, Bool.false_and]
    have hR : fromR l x y = [] := by rw [fromR, if_neg (by simp [ht])]
    have H7 := Lib.hid (ringP_length l)
    rw [hR, ht]
    rw [ring_no hr] at hread
    clear hR hr ht
    generalize ringP l = P at *
    go_enter Try.func16, Try.ntmps16
    go_wp2_with fail
    refine hread.out.mono ?_
    rintro e W1 ⟨rfl, hb1⟩
    have HA := Lib.hid (new_ring W1)
    go_wp2_with (refine store_ring rfl _ _ rfl W1.heap.size zero7 P rfl H7.out rfl rfl HA ?_; intro w2 HA2 hg2 hs2)
    have hb2 := (hb1.alloc hb1.size (.cells #[.int .i64 0, .int .i64 0, .int .i64 0, .int .i64 0, .int .i64 0, .int .i64 0, .int .i64 0] 55)).grown hg2 (by have := hb1.size; simp; omega) (by have := hb1.size; simp; omega)
    clear hg2 hs2 hb1
    go_ret2
    exact ⟨_, rfl, .inl ⟨rfl, rfl⟩, hb2⟩
end Go.Proofs.Ytknjioibmgkpmaa
