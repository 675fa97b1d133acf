/- All arcs of a ring, those of two rings: the model. -/
import Derived.Test.YtamnacgclhaggabArA
import Derived.Test.YtamnacgclhaggabTwoS
namespace Go.Proofs.Ytamnacgclhaggab
open Go.ChangeShapes Go.WideShapes Go.ChangeAt Go.RowKit

def allR (l : List Int) : List Int := if Ring l then allA l else []
def comR (l r : List Int) : List Int := if TwoR l r then comA l r else []
theorem ring_bd {l : List Int} (h : Ring l) : ∀ x ∈ l, 0 ≤ x ∧ x < 7 := fun x hx => by
  have := h.1.2.2.1 x hx
  have := h.1.2.1
  omega
theorem pow_len {l : List Int} (h : l.length ≤ 7) : 2 ^ l.length - 1 ≤ 127 := by have := (pow_bd l.length h).1; omega
theorem allA_len {l : List Int} (h : l.length ≤ 7) : (allA l).length ≤ 127 := Nat.le_trans (arcsTo_len _ _) (pow_len h)
theorem comA_len {l r : List Int} (h : l.length ≤ 7) : (comA l r).length ≤ 127 := Nat.le_trans (arcsTo_len _ _) (pow_len h)
theorem allR_len (l : List Int) : (allR l).length ≤ 127 := by
  unfold allR
  split
  · rename_i h; exact allA_len h.1.2.1
  · simp
theorem comR_len (l r : List Int) : (comR l r).length ≤ 127 := by
  unfold comR
  split
  · rename_i h; exact comA_len h.1.1.2.1
  · simp
/-- What is asked of both is asked of one, then of the other one. -/
theorem arcs_filter (p q : Nat → Bool) (k : Nat) : (arcsTo p k).filter (fun x => q x.toNat) = arcsTo (fun s => p s && q s) k := by
  induction k with
  | zero => rfl
  | succ k ih =>
    cases hp : p k with
    | false => rw [← arcsTo_no hp, ← arcsTo_no (q := fun s => p s && q s) (by simp [hp]), ih]
    | true =>
      rw [← arcsTo_yes hp, List.filter_append, ih]
      cases hq : q k with
      | false => rw [← arcsTo_no (q := fun s => p s && q s) (by simp [hq])]; simp [hq]
      | true => rw [← arcsTo_yes (q := fun s => p s && q s) (by simp [hp, hq])]; simp [hq]
theorem arcs_bd (p : Nat → Bool) (k : Nat) : ∀ x ∈ arcsTo p k, 0 ≤ x ∧ x.toNat < k := fun x hx => by
  simp only [arcsTo, List.mem_map, List.mem_filter, List.mem_range] at hx
  obtain ⟨s, ⟨hs, _⟩, rfl⟩ := hx
  omega

theorem filt_snoc (f : Int → Bool) (C : List Int) (k : Nat) (hk : k < C.length) : (C.take (k + 1)).filter f = (C.take k).filter f ++ if f (C.getD k 0) then [C.getD k 0] else [] := by
  rw [List.take_succ_eq_append_getElem hk, List.filter_append]
  have e : C.getD k 0 = C[k] := by simp [List.getD, hk]
  rw [e]
  congr 1
  rw [List.filter_cons, List.filter_nil]

set_option maxRecDepth 10000 in
set_option maxHeartbeats 2000000 in
theorem acS_any (A0 : Option Addr) (n0 c0 : Nat) (A1 : Option Addr) (n1 c1 H : Nat) (l0 l1 : List Int) (w : World) (h0 : Rd w H A0 n0 l0) (h1 : Rd w H A1 n1 l1) (hH : H ≤ w.heap.size) (hn0 : n0 ≤ 1048576) (hn1 : n1 ≤ 1048576) :
    Calls Try.prog 47 #[.slice A0 n0 c0, .slice A1 n1 c1] w fun e w' => ∃ v, e = .returned (.tuple #[v, .bool (twoB l0 l1)]) ∧ Own w' w.heap.size v (comR l0 l1) ∧ Below w.heap.size w w' := by
  obtain ⟨i0, hi, hz0, hz1, hz2⟩ := info_parts int_info
  have HT := Lib.hid (fun (V : World) (hV : Below w.heap.size w V) => twoS_any A0 n0 c0 A1 n1 c1 H l0 l1 V (h0.below (hV.mono hH)) (h1.below (hV.mono hH)) hn0 hn1)
  have ho0 := Lib.hid (own_empty w _ (Nat.le_refl _))
  have HB0 := Lib.hid ((Below.refl w.heap.size w).alloc (Nat.le_refl _) (.cells #[] 3))
  by_cases ht : TwoR l0 l1
  rotate_left
  · rw [twoNo ht] at HT ⊢
    rw [comR, if_neg ht]
    clear h0 h1 ht
    go_enter Try.func47, Try.ntmps47
    go_wp2_with (go_at_call 91; refine (HT.out _ HB0.out).mono ?_; rintro e w' ⟨rfl, rfl⟩)
    go_ret2
    exact ⟨_, rfl, ho0.out, HB0.out⟩
  have hl0 := h0.len
  have hl1 := h1.len
  have h3 : 3 ≤ n0 := by have := ht.1.1.1; omega
  have h7 : n0 ≤ 7 := by have := ht.1.1.2.1; omega
  have h31 : 3 ≤ n1 := by have := ht.2.1.1.1; omega
  have h71 : n1 ≤ 7 := by have := ht.2.1.1.2.1; omega
  have HA := Lib.hid (fun (V : World) (hV : Below w.heap.size w V) => allS_any A0 n0 c0 H l0 V (h0.below (hV.mono hH)) (Nat.le_trans hH hV.size) h3 h7 (ring_bd ht.1))
  have hp1 := ring_bd ht.2.1
  have HR := Lib.hid (fun (V : World) (s : Nat) (hV : Below w.heap.size w V) (hs : s < 128) => runS_any A1 n1 c1 H l1 s V (h1.below (hV.mono hH)) (by omega) h71 hp1 hs)
  rw [twoYes ht] at HT ⊢
  rw [comR, if_pos ht]
  have hC : comA l0 l1 = (allA l0).filter (fun x => isA l1 x.toNat) := (arcs_filter _ _ _).symm
  have hAL := allA_len (l := l0) (by omega)
  have hAB : ∀ x ∈ allA l0, 0 ≤ x ∧ x.toNat < 128 := fun x hx => by
    have := arcs_bd _ _ x hx
    have := pow_len (l := l0) (by omega)
    omega
  have HAB := Lib.hid hAB
  have HIS : Hid (∀ s, isA l1 s = ((runN (hasN s) l1 : Int) == 1)) := fun s => by rw [isA, Bool.eq_iff_iff, decide_eq_true_iff, beq_iff_eq]; omega
  rw [hC]
  clear h0 h1 ht hC hp1 hl0 hl1 hAB
  generalize allA l0 = C at *
  obtain ⟨n, hn⟩ : ∃ n, n = C.length := ⟨_, rfl⟩
  have HCL : Hid (C.length = n) := hn.symm
  rw [← hn] at hAL
  clear hn
  go_enter Try.func47, Try.ntmps47
  go_wp2_with (go_at_call 91; refine (HT.out _ HB0.out).mono ?_; rintro e w' ⟨rfl, rfl⟩)
  obtain ⟨W0, h0⟩ : ∃ W, W = w.alloc (.cells #[] 3) := ⟨_, rfl⟩
  rw [← h0] at ho0 HB0 ⊢
  have hs0 : W0.heap.size = w.heap.size + 1 := by rw [h0]; simp
  clear h0
  refine (HA.out W0 HB0.out).mono ?_
  rintro e w1 ⟨v1, rfl, ho1, hb1⟩
  have HO1 : Hid (Own w1 w.heap.size (.slice (some ⟨w.heap.size, 0, none⟩) 0 0) []) := ⟨ho0.out.1, by
    rcases ho0.out.2 with e | ⟨g, cap, cur, e, hg, hgg, rest⟩
    · exact .inl e
    · refine .inr ⟨g, cap, cur, e, hg, (hb1.block g ?_).trans hgg, rest⟩
      exact (Array.getElem?_eq_some_iff.1 hgg).1⟩
  have HB1 := Lib.hid (HB0.out.trans (hb1.mono (by omega)))
  have hs1 := hb1.size
  obtain ⟨Aa, ca, rfl⟩ := ho1.slice
  have HCC : Hid (Own2 w1 (w.heap.size + 1) w1.heap.size (.slice Aa C.length ca) C) := by
    refine ⟨?_, fun k hk => (World.ownsRow.lt ho1 k hk).2⟩
    rw [hs0] at ho1
    exact ho1.gen
  clear ho1 hb1 ho0 HB0 HT HA
  rw [HCL.out] at HCC ⊢
  have hs2 : w.heap.size + 1 ≤ w1.heap.size := by omega
  generalize hE : w1.heap.size = E at *
  have HE := Lib.hid hE
  clear hE hs1 hs0
  go_wp2_with fail
  go_loopw [6, 8] (fun v i wr => ∃ q : Nat, q ≤ n ∧ i = .int .i64 q ∧ Hid (wr.ownsRow w.heap.size 3 1 v ((C.take q).filter fun x => isA l1 x.toNat).length (ints ((C.take q).filter fun x => isA l1 x.toNat))) ∧ Hid (Own2 wr (w.heap.size + 1) E (.slice Aa n ca) C) ∧ Hid (Below w.heap.size w wr) ∧ E ≤ wr.heap.size ∧ Hid (∀ k, v.ownBlock = some k → k < w.heap.size + 1 ∨ E ≤ k)) (fun _ i _ => n - (intOf i).toNat)
  case atStart =>
    refine ⟨0, Nat.zero_le _, rfl, ?_, HCC, HB1, by rw [HE.out]; exact Nat.le_refl _, ?_⟩
    · have := HO1.out
      simpa [Own, Hid, ints] using this
    · intro k hk
      simp [Value.ownBlock] at hk
      omega
  case round =>
    obtain ⟨q, hq, rfl, hown, hcc, HBL, hEw, hblk⟩ := hrel
    clear HO1 HCC HB1
    by_cases hlq : q < n
    · have hql : q < C.length := by rw [HCL.out]; exact hlq
      obtain ⟨b, o, rfl, hbH, hcs⟩ := hcc.out.rd.at_ (by omega)
      have hc := hcs q hlq
      have hxb := HAB.out _ (getD_mem C q hql)
      have hst := filt_snoc (fun x => isA l1 x.toNat) C q hql
      clear hcs
      obtain ⟨x, hx⟩ : ∃ x, x = C.getD q 0 := ⟨_, rfl⟩
      rw [← hx] at hc hxb hst
      clear hx
      obtain ⟨s, rfl⟩ : ∃ s : Nat, x = (s : Int) := ⟨x.toNat, by omega⟩
      rw [Int.toNat_natCast] at hst hxb
      have HRR := Lib.hid (HR.out wr s HBL.out hxb.2)
      have HI := Lib.hid (HIS.out s)
      have hzq : ((C.take q).filter fun x => isA l1 x.toNat).length ≤ 127 := by
        have h1 := List.length_filter_le (fun x : Int => isA l1 x.toNat) (C.take q)
        simp at h1
        omega
      cases hp : isA l1 s with
      | true =>
        rw [hp] at hst HI
        rw [if_pos rfl] at hst
        have HST := Lib.hid hst
        have hb := HI.out.symm
        generalize runN (hasN s) l1 = r at *
        generalize hz : ((C.take q).filter fun x => isA l1 x.toNat).length = z at *
        have hzl : Hid (((C.take q).filter fun x => isA l1 x.toNat).length = z) := hz
        clear hst hp hz HI
        go_wp2_with (first
          | (go_at_call 99; refine HRR.out.mono ?_; rintro e w' ⟨rfl, rfl⟩)
          | (at_builtin; refine wpList_append_own_at _ rfl _ _ 23 rfl w.heap.size 3 i0 (.int .i64 0) 1 8 Try.underlying23 hi hz0 hz1 hz2 rfl (by decide) _ _ _ rfl (hown.out.alloc _) ⟨wr.heap.size, 0, none⟩ 1 1 [.int .i64 (s : Int)] rfl rfl (one_cell wr _ _) (by simp [Value.oneCell']) (by unfold maxLen; omega) (by omega) (by have := HBL.out.size; simp; omega) ?_))
        intro v' w5 hown' hgrow _ hob
        have HO5 : Hid (w5.ownsRow w.heap.size 3 1 v' ((C.take (q + 1)).filter fun x => isA l1 x.toNat).length (ints ((C.take (q + 1)).filter fun x => isA l1 x.toNat))) := by
          have e1 : ((C.take (q + 1)).filter fun x => isA l1 x.toNat).length = z + 1 := by rw [HST.out, List.length_append, hzl.out]; rfl
          have e2 : ints ((C.take (q + 1)).filter fun x => isA l1 x.toNat) = ints ((C.take q).filter fun x => isA l1 x.toNat) ++ [.int .i64 (s : Int)] := by rw [HST.out]; simp [ints]
          rw [Hid, e1, e2]
          exact hown'
        have HC5 := Lib.hid ((hcc.out.below ((Below.refl wr.heap.size wr).alloc (Nat.le_refl _) (.cells #[.int .i64 (s : Int)] 3)) hEw).grown hgrow hblk.out)
        have HB5 := Lib.hid ((HBL.out.alloc (by omega) (.cells #[.int .i64 (s : Int)] 3)).grown hgrow (by simp; omega) (fun k hk => (hown.out.lt k hk).1))
        have hs5 := hgrow.size
        have HK5 : Hid (∀ k, v'.ownBlock = some k → k < w.heap.size + 1 ∨ E ≤ k) := fun k hk => by
          rcases hob with e | e
          · exact hblk.out k (by rw [← e]; exact hk)
          · rw [e] at hk
            simp at hk
            omega
        have hE5 : E ≤ w5.heap.size := by simp at hs5; omega
        clear hown' hgrow hob hs5
        go_wp2
        go_roundw
        case rel => exact ⟨q + 1, by omega, by go_num, HO5, HC5, HB5, hE5, HK5⟩
        case measure => simp [intOf]; omega
      | false =>
        rw [hp] at hst HI
        rw [if_neg (by simp), List.append_nil] at hst
        have HST := Lib.hid hst
        have hb := HI.out.symm
        generalize runN (hasN s) l1 = r at *
        clear hst hp HI
        go_wp2_with (go_at_call 99; refine HRR.out.mono ?_; rintro e w' ⟨rfl, rfl⟩)
        go_roundw
        case rel => exact ⟨q + 1, by omega, by go_num, by rw [HST.out]; exact hown, hcc, HBL, hEw, hblk⟩
        case measure => simp [intOf]; omega
    · obtain rfl : q = n := by omega
      go_wp2
      go_ret2
      refine ⟨_, rfl, ?_, HBL.out⟩
      have := hown.out
      rw [List.take_of_length_le (by rw [HCL.out]; omega)] at this
      exact this
end Go.Proofs.Ytamnacgclhaggab
