/- The model's set of a list's points, its part of a ring, and whether a ring has a part. -/
import Derived.Test.YtgojojoanhilnabDoorWvQ
import Derived.Test.YtgojojoanhilnabDoorWvG
import Derived.Test.YtgojojoanhilnabDoorWA
namespace Go.Proofs.YtgojojoanhilnabDoor
open Go.ChangeShapes Go.WideShapes Go.ChangeAt Go.RowKit


theorem mask_pos {n : Int} {p : List Int} (h : Prt n p) : 0 < maskN p := by
  have hl := h.len.1
  have hm := getD_mem p 0 (by omega)
  have hb := h.bd _ hm
  have := mask_at h (p.getD 0 0).toNat
  rw [Int.toNat_of_nonneg hb.1, decide_eq_true hm] at this
  rcases Nat.eq_zero_or_pos (maskN p) with e | e
  · rw [e] at this; simp at this
  · exact e
theorem mask_pow {n : Int} {p : List Int} (h : Prt n p) : maskN p < 2 ^ n.toNat := by
  have h3 := h.1
  exact Nat.lt_pow_two_of_testBit _ fun j hj => mask_fits h j (by omega)

theorem pick_step (s : Nat) (C : List Int) (k : Nat) (hk : k < C.length) : pickN s (C.take (k + 1)) = if hasN s (C.getD k 0) then pickN s (C.take k) ++ [C.getD k 0] else pickN s (C.take k) := by
  unfold pickN
  rw [List.take_succ_eq_append_getElem hk, List.filter_append]
  simp only [List.getD, List.getElem?_eq_getElem hk, Option.getD_some, List.filter_cons, List.filter_nil]
  split <;> simp
theorem pick_len (s : Nat) (C : List Int) (k : Nat) : (pickN s (C.take k)).length ≤ k := by
  have := List.length_filter_le (hasN s) (C.take k)
  rw [List.length_take] at this
  unfold pickN; omega

set_option maxRecDepth 10000 in
set_option maxHeartbeats 1000000 in
theorem partS_any (A : Option Addr) (n c H : Nat) (l : List Int) (s : Nat) (w : World) (h : Rd w H A n l) (hH : H ≤ w.heap.size) (ht : Tell l) (h0 : 0 < s) (hs : s < 2 ^ l.length) :
    Calls Tryd.prog 39 #[.slice A n c, .int .i64 (s : Int)] w fun e w' => ∃ v, e = .returned v ∧ Own w' w.heap.size v (partL l s) ∧ Below w.heap.size w w' := by
  obtain ⟨i0, hi, hz0, hz1, hz2⟩ := info_parts int_info
  have HL := Lib.hid h.len
  have h7 := ht.2.1
  have h3 := ht.1
  have hs7 := fits s l.length h7 hs
  have hlow := low_lt s l.length h7 hs (by omega)
  have hl6 := low_le s
  have HLOW := Lib.hid (low_has s hs7 (by omega))
  have hmem : ((lowN s : Nat) : Int) ∈ l := ht.has (by omega) (by omega)
  rw [HL.out] at h3 h7
  have HCUT := Lib.hid (fun W (hW : Rd W H A n l) (hHW : H ≤ W.heap.size) => cutS_any A n c H l ((lowN s : Nat) : Int) W hW hHW (by omega) h7 hmem)
  have HC0 := Lib.hid (fun k : Nat => (shr_bit s (k : Int) hs7).2)
  have HC1 := Lib.hid (fun x : Int => (shr_bit s x hs7).1)
  have hbd : ∀ x ∈ cutL l ((lowN s : Nat) : Int), 0 ≤ x ∧ x < 7 := fun x hx => by
    have hl0 : 0 < l.length := by have := ht.1; omega
    obtain ⟨k, hk, rfl⟩ := List.getElem_of_mem hx
    have hk' : k < l.length := by simpa using hk
    have e : (cutL l ((lowN s : Nat) : Int))[k] = l.getD ((l.idxOf ((lowN s : Nat) : Int) + k) % l.length) 0 := by rw [← cutL_get l _ k hk', List.getD, List.getElem?_eq_getElem hk]; rfl
    rw [e]
    have := ht.2.2.1 _ (getD_mem l ((l.idxOf ((lowN s : Nat) : Int) + k) % l.length) (Nat.mod_lt _ hl0))
    have := ht.2.1
    omega
  have HBD := Lib.hid hbd
  have HP : Hid (partL l s = pickN s (cutL l ((lowN s : Nat) : Int))) := rfl
  rw [HP.out]
  have HCL : Hid ((cutL l ((lowN s : Nat) : Int)).length = n) := by rw [Hid, cutL_length]; exact HL.out
  have ho0 := Lib.hid (own_empty w _ (Nat.le_refl _))
  have HB0 := Lib.hid ((Below.refl w.heap.size w).alloc (Nat.le_refl _) (.cells #[] 3))
  have HR0 := Lib.hid (h.alloc hH (.cells #[] 3))
  clear h hbd hmem HP hs h0 hlow ht
  generalize hk0 : lowN s = k0 at *
  clear hk0
  generalize cutL l ((k0 : Nat) : Int) = C at *
  go_enter Tryd.func39, Tryd.ntmps39
  go_wp2
  go_loop [5] (fun i => ∃ k : Nat, k ≤ k0 ∧ i = .int .i64 k) (fun i => k0 - (intOf i).toNat)
  case atStart => exact ⟨0, Nat.zero_le _, rfl⟩
  case round =>
    obtain ⟨k, hk, rfl⟩ := hrel
    have hb := HC0.out k
    rw [Int.toNat_natCast] at hb
    by_cases hlt : k < k0
    · have e : hasN s (k : Int) = false := HLOW.out.2 k hlt
      rw [e] at hb
      go_wp2
      go_round
      case rel => exact ⟨k + 1, by omega, by go_num⟩
      case measure => simp [intOf]; omega
    · obtain rfl : k = k0 := by omega
      have e : hasN s (k : Int) = true := HLOW.out.1
      rw [e] at hb
      go_wp2_with fail
      obtain ⟨W0, h0⟩ : ∃ W, W = w.alloc (.cells #[] 3) := ⟨_, rfl⟩
      rw [← h0] at ho0 HB0 HR0 ⊢
      have hs0 : W0.heap.size = w.heap.size + 1 := by rw [h0]; simp
      clear h0
      refine (HCUT.out W0 HR0.out (by omega)).mono ?_
      rintro e w1 ⟨v1, rfl, ho1, hb1⟩
      have HO1 : Hid (Own w1 w.heap.size (.slice (some ⟨w.heap.size, 0, none⟩) 0 0) []) := ⟨ho0.out.1, by
        rcases ho0.out.2 with e | ⟨g, cap, cur, e, hg, hgg, rest⟩
        · exact .inl e
        · refine .inr ⟨g, cap, cur, e, hg, (hb1.block g ?_).trans hgg, rest⟩
          exact (Array.getElem?_eq_some_iff.1 hgg).1⟩
      have HB1 := Lib.hid (HB0.out.trans (hb1.mono (by omega)))
      have hs1 := hb1.size
      obtain ⟨A1, c1, rfl⟩ := ho1.slice
      have HRC := Lib.hid (show Rd w1 w1.heap.size A1 C.length C from ho1.rd.2)
      have HO1C := Lib.hid ho1
      have hcb : ∀ k, (Value.slice A1 C.length c1).ownBlock = some k → w.heap.size + 1 ≤ k := fun k hk => by rw [← hs0]; exact (World.ownsRow.lt ho1 k hk).1
      clear ho1 hb1 ho0 HB0 HR0 HCUT
      have HCC : Hid (Own2 w1 (w.heap.size + 1) w1.heap.size (.slice A1 C.length c1) C) := by
        refine ⟨?_, fun k hk => (World.ownsRow.lt HO1C.out k hk).2⟩
        have := HO1C.out
        rw [hs0] at this
        exact this.gen
      rw [HCL.out] at HCC HRC hcb ⊢
      clear HO1C hcb HRC
      have hs2 : w.heap.size + 1 ≤ w1.heap.size := by omega
      generalize hE : w1.heap.size = E at *
      have HE := Lib.hid hE
      clear hE hs1 hs0
      generalize hB : w.heap.size = B at *
      have HB := Lib.hid hB
      clear hB HC0 hb
      go_wp2_with fail
      go_loopw [6, 8] (fun v i wr => ∃ q : Nat, q ≤ n ∧ i = .int .i64 q ∧ Hid (wr.ownsRow B 3 1 v (pickN s (C.take q)).length (ints (pickN s (C.take q)))) ∧ Hid (Own2 wr (B + 1) E (.slice A1 n c1) C) ∧ Below B w wr ∧ E ≤ wr.heap.size ∧ Hid (∀ k, v.ownBlock = some k → k < B + 1 ∨ E ≤ k)) (fun _ i _ => n - (intOf i).toNat)
      case atStart =>
        refine ⟨0, Nat.zero_le _, rfl, ?_, HCC, HB1.out, by rw [HE.out]; exact Nat.le_refl _, ?_⟩
        · have := HO1.out
          simpa [Own, Hid, ints, pickN] using this
        · intro k hk
          simp [Value.ownBlock] at hk
          omega
      case round =>
        obtain ⟨q, hq, rfl, hown, hcc, hbl, hEw, hblk⟩ := hrel
        clear HO1 HCC HB1
        have HBL := Lib.hid hbl
        clear hbl
        by_cases hlq : q < n
        · have hql : q < C.length := by rw [HCL.out]; exact hlq
          obtain ⟨b, o, rfl, hbH, hcs⟩ := hcc.out.rd.at_ (by omega)
          have hc := hcs q hlq
          have hxb := HBD.out _ (getD_mem C q hql)
          have hst := pick_step s C q hql
          have hpl := pick_len s C q
          have hbt := HC1.out (C.getD q 0)
          clear hcs
          obtain ⟨x, hx⟩ : ∃ x, x = C.getD q 0 := ⟨_, rfl⟩
          rw [← hx] at hc hxb hst hbt
          clear hx
          obtain ⟨hx0, hx7⟩ := hxb
          have HC' := Lib.hid hcc.out
          clear hcc
          cases hp : hasN s x with
          | true =>
            rw [hp] at hbt hst
            rw [if_pos rfl] at hst
            have HST := Lib.hid hst
            generalize hz : (pickN s (C.take q)).length = z at *
            have hzl : Hid ((pickN s (C.take q)).length = z) := hz
            clear hst hp hz
            go_wp2_with (at_builtin; refine wpList_append_own_at _ rfl _ _ 26 rfl B 3 i0 (.int .i64 0) 1 8 Tryd.underlying26 hi hz0 hz1 hz2 rfl (by decide) _ _ _ rfl (hown.out.alloc _) ⟨wr.heap.size, 0, none⟩ 1 1 [.int .i64 x] rfl rfl (one_cell wr _ _) (by simp [Value.oneCell']) (by unfold maxLen; omega) (by omega) (by simp; omega) ?_)
            intro v' w5 hown' hgrow _ hob
            have HO5 : Hid (w5.ownsRow B 3 1 v' (pickN s (C.take (q + 1))).length (ints (pickN s (C.take (q + 1))))) := by
              have e1 : (pickN s (C.take (q + 1))).length = z + 1 := by rw [HST.out, List.length_append, hzl.out]; rfl
              have e2 : ints (pickN s (C.take (q + 1))) = ints (pickN s (C.take q)) ++ [.int .i64 x] := by rw [HST.out]; simp [ints]
              rw [Hid, e1, e2]
              exact hown'
            have HC5 := Lib.hid ((HC'.out.below ((Below.refl wr.heap.size wr).alloc (Nat.le_refl _) (.cells #[.int .i64 x] 3)) hEw).grown hgrow hblk.out)
            have HB5 := Lib.hid ((HBL.out.alloc (by omega) (.cells #[.int .i64 x] 3)).grown hgrow (by simp; omega) (fun k hk => (hown.out.lt k hk).1))
            have hs5 := hgrow.size
            have HK5 : Hid (∀ k, v'.ownBlock = some k → k < B + 1 ∨ E ≤ k) := fun k hk => by
              rcases hob with e | e
              · exact hblk.out k (by rw [← e]; exact hk)
              · rw [e] at hk
                simp at hk
                omega
            have hE5 : E ≤ w5.heap.size := by simp at hs5; omega
            clear hown' hgrow hob hs5
            go_wp2
            go_roundw
            case rel => exact ⟨q + 1, by omega, by go_num, HO5, HC5, HB5.out, hE5, HK5⟩
            case measure => simp [intOf]; omega
          | false =>
            rw [hp] at hbt hst
            rw [if_neg (by simp)] at hst
            have HST := Lib.hid hst
            clear hst hp
            go_wp2
            go_roundw
            case rel => exact ⟨q + 1, by omega, by go_num, by rw [HST.out]; exact hown, HC', HBL.out, hEw, hblk⟩
            case measure => simp [intOf]; omega
        · obtain rfl : q = n := by omega
          go_wp2
          go_ret
          refine ⟨_, rfl, ?_, by rw [HB.out]; exact HBL.out⟩
          have := hown.out
          rw [List.take_of_length_le (by rw [HCL.out]; omega)] at this
          rw [HB.out]
          exact this
end Go.Proofs.YtgojojoanhilnabDoor
