/- The first three of a clash, in the program. -/
import Derived.Test.YthefnanhikjddaaDoorMWork
import Derived.Test.YthefnanhikjddaaDoorAnyS
namespace Go.Proofs.YthefnanhikjddaaDoor
open Go.ChangeShapes Go.WideShapes Go.ChangeAt Go.RowKit

theorem find_at (p : List Int → Bool) (R : List (List Int)) (k : Nat) (h : k < R.length) (hno : (R.take k).any p = false) (hp : p (rowK R k) = true) : R.find? p = some (rowK R k) := by
  have e : rowK R k = R[k] := by simp [rowK, List.getD, h]
  rw [e] at hp ⊢
  rw [List.find?_eq_some_iff_append]
  refine ⟨hp, R.take k, R.drop (k + 1), ?_, fun a ha => ?_⟩
  · rw [← List.drop_eq_getElem_cons h, List.take_append_drop]
  · have := List.any_eq_false.1 hno a ha
    simpa using this

set_option maxRecDepth 10000 in
set_option maxHeartbeats 2000000 in
theorem clash1_any (n mb : Nat) (K : List (List Int)) (w : World) (h7 : n ≤ 7) (hm : MapK w mb K) :
    Calls Tryd.prog 20 #[.map (some mb), .int .i64 (n : Int)] w fun e w' => ∃ P : List Int, P.length = 3 ∧ e = .returned (.tuple #[.agg (ints P).toArray, .bool (((everyL n).filter fun t => decide (t ∈ K)).any fun t => decide (turn3 t ∈ K))]) ∧ Below w.heap.size w w' ∧ (((everyL n).filter fun t => decide (t ∈ K)).any (fun t => decide (turn3 t ∈ K)) = true → ((everyL n).filter fun t => decide (t ∈ K)).find? (fun t => decide (turn3 t ∈ K)) = some P) := by
  obtain ⟨W0, hW0⟩ : ∃ W, W = w.alloc (.cells (ints zero3).toArray 45) := ⟨_, rfl⟩
  have ht0 : Hid (Tri W0 w.heap.size zero3) := by rw [hW0]; exact Blk.new w _
  have hm0 : MapK W0 mb K := by rw [hW0]; exact hm.alloc _
  have hb0 : Hid (Below w.heap.size w W0) := by rw [hW0]; exact (Below.refl _ _).alloc (Nat.le_refl _) _
  have hmb := hm.lt
  have hs0 : W0.heap.size = w.heap.size + 1 := by rw [hW0]; simp
  have HSO := Lib.hid (sorted_any n mb K W0 h7 hm0)
  have HM0 := Lib.hid hm0
  obtain ⟨S, hS⟩ : ∃ S, S = (everyL n).filter fun t => decide (t ∈ K) := ⟨_, rfl⟩
  have HSL : Hid (S.length ≤ 343) := by
    rw [Hid, hS]
    have h1 := List.length_filter_le (fun t => decide (t ∈ K)) (everyL n)
    have h2 := everyL_len n h7
    omega
  have HST : Hid (∀ t ∈ S, Thr (n : Int) t) := by rw [Hid, hS]; intro t ht; exact (every_thr n t).1 (List.mem_filter.1 ht).1
  rw [← hS] at HSO ⊢
  clear hS hm hm0
  obtain ⟨r, hrr⟩ : ∃ r, r = S.any fun t => decide (turn3 t ∈ K) := ⟨_, rfl⟩
  have HRB := Lib.hid hrr
  rw [← hrr]
  clear hrr
  simp only [zero3, ints, List.map_cons, List.map_nil] at hW0
  go_enter Tryd.func20, Tryd.ntmps20
  go_wp2_with fail
  rw [← hW0]
  clear hW0
  refine HSO.out.mono ?_
  rintro e w1 ⟨v1, rfl, hr1, hb1⟩
  obtain ⟨A, c, rfl⟩ := hr1.slice
  have HT1 := Lib.hid (ht0.out.below hb1 (by omega))
  have HM1 := Lib.hid (HM0.out.below hb1 (by omega))
  have HB1 := Lib.hid (hb0.out.trans (hb1.mono (by omega)))
  have HR1 : Hid (RowN w1 (w.heap.size + 1) 45 3 (.slice A S.length c) S) := by rw [← hs0]; exact hr1
  clear hr1 hb1 ht0 HM0 hb0 HSO hs0
  obtain ⟨z, hz⟩ : ∃ z, z = S.length := ⟨_, rfl⟩
  have HZ := Lib.hid hz
  have HZ2 : Hid (z ≤ 343) := by rw [Hid, hz]; exact HSL.out
  rw [← hz] at HR1 ⊢
  clear hz
  have hz343 := HZ2.out
  generalize hB : w.heap.size = B at *
  have HB := Lib.hid hB
  clear hB
  go_wp2_with fail
  go_loopw [12] (fun i wr => ∃ k : Nat, k ≤ z ∧ i = .int .i64 k ∧ Hid ((S.take k).any (fun t => decide (turn3 t ∈ K)) = false) ∧ Hid (RowN wr (B + 1) 45 3 (.slice A z c) S) ∧ Hid (MapK wr mb K) ∧ Hid (Tri wr B zero3) ∧ Hid (Below B w wr)) (fun i _ => z - (intOf i).toNat)
  case atStart => exact ⟨0, Nat.zero_le _, rfl, Lib.hid (by simp), HR1, HM1, HT1, HB1⟩
  case round =>
    obtain ⟨k, hk, rfl, hno, hrw, hmk, htr, hbl⟩ := hrel
    clear HR1 HM1 HT1 HB1
    have hBw := htr.out.lt
    have hmw := hmk.out.lt
    by_cases hlt : k < z
    · have hkl : k < S.length := by rw [← HZ.out]; exact hlt
      have HKL := Lib.hid hkl
      obtain ⟨g, c', e0, hgB, hgs, _, _, _, _⟩ := hrw.out.elem hkl
      rw [← HZ.out] at e0
      injection e0 with e1 _ e3
      subst e3
      subst e1
      have hth := HST.out _ (rowK_mem hkl)
      obtain ⟨x, y, u, e⟩ := of_three hth.1
      have HE := Lib.hid e
      rw [e] at hth
      have hth2 : Thr (n : Int) [x, u, y] := by
        rw [thr3] at hth ⊢
        obtain ⟨h1, h2, h3, h4, h5, h6⟩ := hth
        exact ⟨h1, h3, h2, h5, h4, Ne.symm h6⟩
      have HSM := Lib.hid (thr_sm hth2 h7)
      have HAS := Lib.hid (any_step (fun t => decide (turn3 t ∈ K)) S k hkl)
      have HFA := Lib.hid (find_at (fun t => decide (turn3 t ∈ K)) S k hkl hno.out)
      have HAY := Lib.hid (any_yes (fun t => decide (turn3 t ∈ K)) S k hkl)
      rw [e] at HAS HAY HFA
      have e3 : turn3 [x, y, u] = [x, u, y] := rfl
      rw [e3] at HAS HAY HFA
      clear e e3 hth hth2 hkl
      have HNT := Lib.hid (Blk.new (t := 45) wr [0, 0, 0])
      cases hr : decide ([x, u, y] ∈ K) with
      | true =>
        have HDEC : Hid (decide ([x, u, y] ∈ K) = true) := hr
        have HY := Lib.hid (HAY.out hr)
        have HFN := Lib.hid (HFA.out hr)
        clear hr HAY HAS HFA
        go_wp2_with (first
          | (refine load_elem rfl _ 45 rfl _ rfl Tryd.underlying45 g z c (B + 1) k 3 S hrw HKL.out three_size rfl ?_; rw [HE.out])
          | (refine store_tri rfl _ _ rfl wr.heap.size zero3 [x, y, u] rfl rfl rfl rfl HNT ?_; intro w6 HB6 hg6 hs6; have h6 : Hid (Below wr.heap.size wr w6) := Lib.hid (((Below.refl _ _).alloc (Nat.le_refl _) _).grown hg6 (by simp) (by simp)))
          | (refine load_tri rfl _ rfl wr.heap.size [x, y, u] rfl rfl HB6 ?_)
          | (go_at_call 47; refine (tback_any x y u _).mono ?_; rintro e w7 ⟨rfl, hb7⟩; have h7' : Hid (Below wr.heap.size wr w7) := Lib.hid (h6.out.trans (hb7.mono h6.out.size)); have HM7 := Lib.hid (hmk.out.below h7'.out hmw); have HT7 := Lib.hid (HB6.out.below hb7 HB6.out.lt); have HR7 := Lib.hid (htr.out.below h7'.out hBw))
          | (refine look_op rfl _ _ rfl mb K [x, u, y] HSM.out rfl rfl HM7 ?_; rw [HDEC.out])
          | (refine load_tri rfl _ rfl wr.heap.size [x, y, u] rfl rfl HT7 ?_)
          | (refine store_tri rfl _ _ rfl B zero3 [x, y, u] rfl rfl rfl rfl HR7 ?_; intro w9 HB9 hg9 hs9))
        have HW7 := Lib.hid (hbl.out.trans (h7'.out.mono (Nat.le_of_lt hBw)))
        have hz7 := h7'.out.size
        exact ret_tri2 rfl B [x, y, u] rfl rfl HB9 rfl ⟨[x, y, u], rfl, by rw [HRB.out, HY.out]; rfl, by rw [HB.out]; exact HW7.out.grown hg9 (by omega) (fun k hk => by injection hk; omega), fun _ => HFN.out⟩
      | false =>
        have HDEC : Hid (decide ([x, u, y] ∈ K) = false) := hr
        have HN : Hid ((S.take (k + 1)).any (fun t => decide (turn3 t ∈ K)) = false) := by rw [Hid, HAS.out, hno.out, hr]; rfl
        clear hr HAY HAS HFA
        go_wp2_with (first
          | (refine load_elem rfl _ 45 rfl _ rfl Tryd.underlying45 g z c (B + 1) k 3 S hrw HKL.out three_size rfl ?_; rw [HE.out])
          | (refine store_tri rfl _ _ rfl wr.heap.size zero3 [x, y, u] rfl rfl rfl rfl HNT ?_; intro w6 HB6 hg6 hs6; have h6 : Hid (Below wr.heap.size wr w6) := Lib.hid (((Below.refl _ _).alloc (Nat.le_refl _) _).grown hg6 (by simp) (by simp)))
          | (refine load_tri rfl _ rfl wr.heap.size [x, y, u] rfl rfl HB6 ?_)
          | (go_at_call 47; refine (tback_any x y u _).mono ?_; rintro e w7 ⟨rfl, hb7⟩; have h7' : Hid (Below wr.heap.size wr w7) := Lib.hid (h6.out.trans (hb7.mono h6.out.size)); have HM7 := Lib.hid (hmk.out.below h7'.out hmw); have HT7 := Lib.hid (HB6.out.below hb7 HB6.out.lt); have HR7 := Lib.hid (htr.out.below h7'.out hBw))
          | (refine look_op rfl _ _ rfl mb K [x, u, y] HSM.out rfl rfl HM7 ?_; rw [HDEC.out]))
        have HW7 := Lib.hid (hbl.out.trans (h7'.out.mono (Nat.le_of_lt hBw)))
        have HRW7 := Lib.hid (hrw.out.below h7'.out (fun i hi => (hrw.out.lt i hi).2))
        go_wp2
        go_roundw
        case rel => exact ⟨k + 1, by omega, by go_num, HN, HRW7, HM7, HR7, HW7⟩
        case measure => simp [intOf]; omega
    · obtain rfl : k = z := by omega
      have e : S.take k = S := List.take_of_length_le (by rw [HZ.out]; omega)
      have hno' := hno.out
      rw [e] at hno'
      have HN := Lib.hid hno'
      clear e hno' hno
      go_wp2_with (refine store_tri rfl _ _ rfl B zero3 zero3 rfl rfl rfl rfl htr ?_; intro w9 HB9 hg9 hs9)
      exact ret_tri2 rfl B zero3 rfl rfl HB9 rfl ⟨zero3, rfl, by rw [HRB.out, HN.out]; rfl, by rw [HB.out]; exact hbl.out.grown hg9 (by omega) (fun k hk => by injection hk; omega), fun h => by rw [HRB.out, HN.out] at h; cases h⟩

end Go.Proofs.YthefnanhikjddaaDoor
