/- Several texts as one: Count ByM ByI ByS By. -/
import Derived.Test.YtbfdbnminjhocaaMA
import Derived.Test.YtbfdbnminjhocaaMB
import Derived.Test.YtbfdbnminjhocaaDel
import Derived.Laws.IdiomCopy
import Derived.Deep.RegionLaw
import Derived.IntWalk
import Derived.Maps.AppendAt
namespace Go.Proofs.Ytbfdbnminjhocaa
open Go.ChangeShapes Go.WideShapes Go.ChangeAt Go.RowKit

def rcount (n : Int) : Int := if 3 ≤ n ∧ n ≤ 7 then facN (n.toNat - 1) else 0

theorem countI_any (n : Int) (w : World) :
    Calls Try.prog 27 #[.int .i64 n] w fun e w' => e = .returned (.tuple #[.int .i64 (rcount n), .bool (decide (3 ≤ n) && decide (n ≤ 7))]) ∧ w = w' := by
  by_cases h : 3 ≤ n ∧ n ≤ 7
  · have hb : (decide (3 ≤ n) && decide (n ≤ 7)) = true := by simpa using h
    have hr : rcount n = facN (n.toNat - 1) := by unfold rcount; rw [if_pos h]
    rw [hr, hb]
    obtain ⟨h1, h2⟩ := h
    clear hr
    go_enter Try.func27, Try.ntmps27
    go_wp2_with (first
      | (go_at_call 67; refine (sizeIn_any _ _).mono ?_; rintro e w' ⟨rfl, rfl⟩)
      | (go_at_call 73; refine (facI_any _ _ (by omega) (by omega)).mono ?_; rintro e w' ⟨rfl, rfl⟩))
    go_ret2
    exact ⟨rfl, rfl⟩
  · have hb : (decide (3 ≤ n) && decide (n ≤ 7)) = false := by simp; omega
    have hr : rcount n = 0 := by unfold rcount; rw [if_neg h]
    rw [hr, hb]
    clear hr h
    go_enter Try.func27, Try.ntmps27
    go_wp2_with (go_at_call 67; refine (sizeIn_any _ _).mono ?_; rintro e w' ⟨rfl, rfl⟩)
    go_ret2
    exact ⟨rfl, rfl⟩

end Go.Proofs.Ytbfdbnminjhocaa

namespace Go.Proofs.Ytbfdbnminjhocaa
open Go.ChangeShapes Go.WideShapes Go.ChangeAt Go.RowKit

/-- Points taken one by one out of those that are left, by a number. -/
def takeBy : Nat → List Int → Int → List Int
  | 0, _, _ => []
  | m + 1, left, k => left.getD (k / facN m).toNat 0 :: takeBy m (left.eraseIdx (k / facN m).toNat) (k % facN m)

def upFrom (a : Int) (n : Nat) : List Int := (List.range n).map fun i : Nat => a + (i : Int)
@[simp] theorem upFrom_length (a : Int) (n : Nat) : (upFrom a n).length = n := by simp [upFrom]
theorem upFrom_snoc (a : Int) (n : Nat) : upFrom a (n + 1) = upFrom a n ++ [a + (n : Int)] := by simp [upFrom, List.range_succ]
theorem upFrom_cons (a : Int) (n : Nat) : upFrom a (n + 1) = a :: upFrom (a + 1) n := by
  simp [upFrom, List.range_succ_eq_map, Function.comp_def]
  intro i _
  omega
theorem upFrom_get (a : Int) (n k : Nat) (h : k < n) : (upFrom a n).getD k 0 = a + k := by simp [upFrom, List.getD, h]

theorem facN_succ (m : Nat) (h : m ≤ 6) : facN (m + 1) = ((m + 1 : Nat) : Int) * facN m := by
  obtain rfl | rfl | rfl | rfl | rfl | rfl | rfl : m = 0 ∨ m = 1 ∨ m = 2 ∨ m = 3 ∨ m = 4 ∨ m = 5 ∨ m = 6 := by omega
  all_goals decide

/-- The place that a number tells among m + 1 points that are left. -/
theorem place_bd (m : Nat) (k : Int) (h : m ≤ 6) (h0 : 0 ≤ k) (hk : k < facN (m + 1)) : 0 ≤ k / facN m ∧ k / facN m ≤ m ∧ 0 ≤ k % facN m ∧ k % facN m < facN m := by
  have hf := (facN_bd m).1
  rw [facN_succ m h] at hk
  refine ⟨Int.ediv_nonneg h0 (by omega), ?_, Int.emod_nonneg _ (by omega), Int.emod_lt_of_pos _ (by omega)⟩
  have := Int.ediv_lt_of_lt_mul (by omega : 0 < facN m) hk
  omega

theorem takeBy_length (m : Nat) (left : List Int) (k : Int) : (takeBy m left k).length = m := by
  induction m generalizing left k with
  | zero => rfl
  | succ m ih => simp [takeBy, ih]
theorem takeBy_mem : ∀ (m : Nat) (left : List Int) (k : Int), m ≤ 7 → left.length = m → 0 ≤ k → k < facN m → ∀ x ∈ takeBy m left k, x ∈ left
  | 0, _, _, _, _, _, _, x, hx => by simp [takeBy] at hx
  | m + 1, left, k, hm, hl, h0, hk, x, hx => by
    obtain ⟨h1, h2, h3, h4⟩ := place_bd m k (by omega) h0 hk
    rcases List.mem_cons.1 hx with rfl | hx
    · exact getD_mem left _ (by omega)
    · exact List.mem_of_mem_eraseIdx (takeBy_mem m _ _ (by omega) (by rw [List.length_eraseIdx]; rw [if_pos (by omega)]; omega) h3 h4 x hx)

/-- The ring of n points with the number k. -/
def byL (n : Nat) (k : Int) : List Int := takeBy n (upFrom 0 n) k
theorem byL_length (n : Nat) (k : Int) : (byL n k).length = n := takeBy_length n _ _
theorem byL_eq (n : Nat) (k : Int) (h1 : 1 ≤ n) (h7 : n ≤ 7) (h0 : 0 ≤ k) (hk : k < facN (n - 1)) : byL n k = 0 :: takeBy (n - 1) (upFrom 1 (n - 1)) k := by
  obtain ⟨m, rfl⟩ : ∃ m, n = m + 1 := ⟨n - 1, by omega⟩
  simp only [Nat.add_sub_cancel] at hk ⊢
  have hd : k / facN m = 0 := Int.ediv_eq_zero_of_lt h0 hk
  have hm : k % facN m = k := Int.emod_eq_of_lt h0 hk
  unfold byL
  rw [takeBy, hd, hm, upFrom_cons]
  rfl
theorem byL_pos (n : Nat) (k : Int) (h7 : n ≤ 7) (h0 : 0 ≤ k) (hk : k < facN n) : ∀ x ∈ byL n k, 0 ≤ x := fun x hx => by
  have := takeBy_mem n _ k h7 (by simp) h0 hk x hx
  obtain ⟨i, _, rfl⟩ := List.mem_map.1 this
  omega

/-- A number of points, and a number that there is. -/
def byB (n k : Int) : Bool := decide (3 ≤ n ∧ n ≤ 7 ∧ 0 ≤ k ∧ k < facN (n.toNat - 1))
def byR (n k : Int) : List Int := if byB n k then byL n.toNat k else []
theorem byR_length (n k : Int) : (byR n k).length ≤ 7 := by
  unfold byR
  split
  · rename_i h
    simp only [byB, decide_eq_true_eq] at h
    rw [byL_length]; omega
  · simp
end Go.Proofs.Ytbfdbnminjhocaa

namespace Go.Proofs.Ytbfdbnminjhocaa
open Go.ChangeShapes Go.WideShapes Go.ChangeAt Go.RowKit

theorem setCells_row (g : Nat) (t : TypeId) : ∀ (vs : List Value) (o : Nat) (w : World) (cur : Array Value), w.heap[g]? = some (.cells cur t (0, 0)) →
    ∃ cur' : Array Value, (w.setCells g o vs).heap[g]? = some (.cells cur' t (0, 0)) ∧ cur'.size = cur.size ∧ (∀ j, j < vs.length → o + j < cur.size → cur'[o + j]? = vs[j]?) ∧ (∀ j, j < o → cur'[j]? = cur[j]?) ∧
      w.grownBy (w.setCells g o vs) (some g)
  | [], o, w, cur, h => ⟨cur, h, rfl, fun j hj => absurd hj (by simp), fun _ _ => rfl, World.grownBy.refl _ _⟩
  | v :: vs, o, w, cur, h => by
    obtain ⟨c1, h1, h2, h3, h4, h5⟩ := setCells_row g t vs (o + 1) (w.setCell ⟨g, o, none⟩ v) (cur.setIfInBounds o v) (heap_setCell_same w g o cur t v h)
    have hg1 : w.grownBy (w.setCell ⟨g, o, none⟩ v) (some g) := ⟨rfl, rfl, rfl, by simp [World.setCell], fun i _ hne => Below.heap_setCell _ _ _ _ (fun e => hne (by simp [e]))⟩
    refine ⟨c1, h1, by rw [h2]; simp, fun j hj hs => ?_, fun j hj => ?_, hg1.trans h5⟩
    · rcases j with _ | j
      · rw [Nat.add_zero, h4 o (by omega)]
        simp at hs ⊢
        simp [hs]
      · have := h3 j (by simpa using hj) (by simp; omega)
        rw [show o + 1 + j = o + (j + 1) by omega] at this
        simpa using this
    · rw [h4 j (by omega), Array.getElem?_setIfInBounds, if_neg (by omega)]

theorem delete_any (g n cap B q : Nat) (L : List Int) (qv jv : Int) (w : World) (h : w.ownsRow B 3 1 (.slice (some ⟨g, 0, none⟩) n cap) n (ints L)) (hl : L.length = n) (hq : q < n) (h1 : qv = q) (h2 : jv = q + 1) :
    Calls Try.prog 99 #[.slice (some ⟨g, 0, none⟩) n cap, .int .i64 qv, .int .i64 jv] w fun e w' => e = .returned (.slice (some ⟨g, 0, none⟩) (n - 1) cap) ∧
      w'.ownsRow B 3 1 (.slice (some ⟨g, 0, none⟩) (n - 1) cap) (n - 1) (ints (L.eraseIdx q)) ∧ w.grownBy w' (some g) := by
  subst h1
  obtain rfl : jv = ((q + 1 : Nat) : Int) := by omega
  rcases h.2 with ⟨e, _⟩ | ⟨g', cap', cur, e, hB, hh, hnc, hcm, hcs, ht⟩
  · simp at e
  · simp only [Value.slice.injEq, Option.some.injEq, Addr.mk.injEq, and_true, true_and] at e
    obtain ⟨rfl, rfl⟩ := e
    unfold maxLen at hcm
    refine (Try.slices_Delete_int_cells g 0 n cap q (q + 1) L w (by omega) hnc (by omega) (by omega) (by omega) (fun j hj => by rw [Nat.zero_add, h.cellAt j (by omega), ints_get _ _ hj]) (fun j _ => frozen_of_row w g _ cur _ hh)).mono ?_
    rintro e w' ⟨rfl, nq, rfl⟩
    rw [show q + 1 - q = 1 by omega]
    refine ⟨rfl, ?_⟩
    have hX : (L.take n).take q ++ (L.take n).drop (q + 1) ++ List.replicate 1 0 = L.eraseIdx q ++ [0] := by
      rw [List.take_of_length_le (by omega : L.length ≤ n), List.eraseIdx_eq_take_drop_succ]
      rfl
    rw [hX]
    have hel : (L.eraseIdx q).length = n - 1 := by rw [List.length_eraseIdx, if_pos (by omega)]; omega
    obtain ⟨c1, g1, g2, g3, _, g5⟩ := setCells_row g 3 ((L.eraseIdx q ++ [0]).map (Value.int .i64)) 0 (w.drewN nq) cur hh
    refine ⟨⟨by rw [ints_length, hel]; omega, .inr ⟨g, cap, c1, rfl, hB, g1, by omega, by unfold maxLen; omega, by rw [g2]; exact hcs, ?_⟩⟩, ?_⟩
    · apply List.ext_getElem?
      intro j
      rw [List.getElem?_take]
      by_cases hj : j < (n - 1) * 1
      · rw [if_pos hj, Array.getElem?_toList]
        have := g3 j (by simp; omega) (by omega)
        rw [Nat.zero_add] at this
        rw [this, List.getElem?_map, List.getElem?_append_left (by omega), ints, List.getElem?_map]
      · rw [if_neg hj, List.getElem?_eq_none (by rw [ints_length]; omega)]
    · exact ⟨g5.os, g5.tape, g5.output, g5.size, g5.block⟩

/-- The array half filled by numbers. -/
theorem pad_out (out : List Int) (i : Nat) (x : Int) (hl : out.length = i) (hi : i < 7) : (padR out).set i x = padR (out ++ [x]) := by
  unfold padR
  rw [List.set_append_right _ _ (by omega), hl, Nat.sub_self]
  obtain ⟨m, hm⟩ : ∃ m, 7 - i = m + 1 := ⟨7 - i - 1, by omega⟩
  rw [hm, List.replicate_succ, List.set_cons_zero, List.append_assoc]
  simp [hl]
  omega

set_option maxHeartbeats 2000000 in
theorem numbered_any (n : Nat) (k0 : Int) (w : World) (h3 : 3 ≤ n) (h7 : n ≤ 7) (h0 : 0 ≤ k0) (hk : k0 < facN n) :
    Calls Try.prog 62 #[.int .i64 (n : Int), .int .i64 k0] w fun e w' => e = .returned (agp (byL n k0)) ∧ Below w.heap.size w w' := by
  obtain ⟨i0, hi, hz0, hz1, hz2⟩ := info_parts int_info
  have hC7 : (padR (byL n k0)).length = 7 := padR_length _ (by rw [byL_length]; exact h7)
  have HC7 := Lib.hid hC7
  have hC0 : ([] : List Int) ++ takeBy (n - 0) (upFrom 0 n) k0 = byL n k0 := rfl
  have HC0 := Lib.hid hC0
  have HK0 := Lib.hid hk
  clear hC7 hC0 hk
  generalize hC : byL n k0 = C at *
  clear hC
  go_enter Try.func62, Try.ntmps62
  go_wp2_with fail
  obtain ⟨W0, hW0⟩ : ∃ W, W = w.alloc (.cells #[.int .i64 0, .int .i64 0, .int .i64 0, .int .i64 0, .int .i64 0, .int .i64 0, .int .i64 0] 52) := ⟨_, rfl⟩
  rw [← hW0]
  have hs0 : W0.heap.size = w.heap.size + 1 := by rw [hW0]; simp
  have hb0 : Below w.heap.size w W0 := by rw [hW0]; exact (Below.refl _ _).alloc (Nat.le_refl _) _
  have ha0 : Arr W0 w.heap.size zero7 := by rw [hW0]; exact new_ring w
  clear hW0
  generalize hB : w.heap.size = B at *
  have HB := Lib.hid hB
  clear hB
  refine (empty_any W0).mono ?_
  rintro e W1 ⟨rfl, hb⟩
  have hb1 : Below B w W1 := hb0.trans (hb.mono (by omega))
  have ha1 := ha0.below hb (by omega)
  have hs1 : B < W1.heap.size := by have := hb.size; omega
  clear hb hb0 ha0 hs0
  have k1 : Arr (W1.alloc (.cells #[.int .i64 (-1), .int .i64 (-1), .int .i64 (-1), .int .i64 (-1), .int .i64 (-1), .int .i64 (-1), .int .i64 (-1)] 52)) W1.heap.size neg7 := heap_alloc_new W1 _
  have k2 : Arr (W1.alloc (.cells #[.int .i64 (-1), .int .i64 (-1), .int .i64 (-1), .int .i64 (-1), .int .i64 (-1), .int .i64 (-1), .int .i64 (-1)] 52)) B zero7 := ha1.alloc _
  have k3 : Below B w (W1.alloc (.cells #[.int .i64 (-1), .int .i64 (-1), .int .i64 (-1), .int .i64 (-1), .int .i64 (-1), .int .i64 (-1), .int .i64 (-1)] 52)) := hb1.alloc (by omega) _
  have K1 := Lib.hid k1
  have K2 := Lib.hid k2
  have K3 := Lib.hid k3
  clear k1 k2 k3 ha1 hb1
  go_wp2_with (at_make; refine wpList_make_full _ rfl _ _ 23 rfl B 3 i0 (.int .i64 0) 1 Try.underlying23 hi hz0 hz1 .i64 .i64 _ _ n rfl rfl rfl rfl (by rw [hz2]; omega) (by unfold maxLen; omega) (by simp; omega) ?_)
  intro W3 hown3 hg3
  have ho3 : W3.ownsRow B 3 1 (.slice (some ⟨W1.heap.size + 1, 0, none⟩) n n) n (ints (half (upFrom 0 n) n 0)) := by
    have e : ints (half (upFrom 0 n) n 0) = (madeCells #[Value.int IntKind.i64 0] n).toList := by
      rw [half_zero, toList_madeCells_one]
      simp [ints]
    rw [e]
    simpa using hown3
  have HG3 : Hid (Arr W3 W1.heap.size neg7) := (hg3.block W1.heap.size (by simp) (by simp)).trans K1.out
  have HR3 : Hid (Arr W3 B zero7) := (hg3.block B (by simp; omega) (by simp)).trans K2.out
  have hb3 : Below B w W3 := K3.out.grown hg3 (by simp; omega) (by simp)
  clear hown3 hg3 K1 K2 K3
  generalize W1.heap.size = G at *
  go_wp2_with fail
  go_loopw [16] (fun i wr => ∃ k : Nat, k ≤ n ∧ i = .int .i64 k ∧ Hid (wr.ownsRow B 3 1 (.slice (some ⟨G + 1, 0, none⟩) n n) n (ints (half (upFrom 0 n) n k))) ∧ Hid (Arr wr G neg7) ∧ Hid (Arr wr B zero7) ∧ Below B w wr) (fun i _ => n - (intOf i).toNat)
  case atStart => exact ⟨0, Nat.zero_le _, rfl, ho3, HG3, HR3, hb3⟩
  case round =>
    obtain ⟨k, hk, rfl, hown, hG, hR, hbl⟩ := hrel
    clear ho3 HG3 HR3 hb3
    by_cases hlt : k < n
    · have hst := hown.out.stored k (.int .i64 (k : Int))
      have hsp := half_step (upFrom 0 n) n k (by simp) hlt
      rw [upFrom_get 0 n k hlt, Int.zero_add] at hsp
      rw [ints_set, hsp] at hst
      have hcell : wr.cell? ⟨G + 1, k, none⟩ = some (.int .i64 ((half (upFrom 0 n) n k).getD k 0)) := by
        rw [hown.out.cellAt k (by omega), ints_get _ _ (by rw [half_length _ n k (by simp) hk]; exact hlt)]
      have hfr : wr.frozen? ⟨G + 1, k, none⟩ = false := hown.out.frozenAt _
      have HS := Lib.hid hst
      clear hst hsp
      generalize (half (upFrom 0 n) n k).getD k 0 = old at hcell
      go_wp2
      go_roundw
      case rel => exact ⟨k + 1, by omega, by go_num, HS.out.1, Lib.hid (hG.out.far (by simp) _), Lib.hid (hR.out.far (by simp; omega) _), hbl.setCell (by simp; omega) _⟩
      case measure => simp [intOf]; omega
    · obtain rfl : k = n := by omega
      have hown2 := hown.out
      rw [half_full _ k (by simp)] at hown2
      have HO2 := Lib.hid hown2
      clear hown hown2
      go_wp2
      obtain ⟨wo, rfl⟩ : ∃ wo : World, wo = wr := ⟨_, rfl⟩
      go_loopw [1, 6, 25] (fun kk v i wr => ∃ (j : Nat) (out left : List Int) (q : Int), j ≤ k ∧ i = .int .i64 j ∧ kk = .int .i64 q ∧ v = .slice (some ⟨G + 1, 0, none⟩) (k - j) k ∧ 0 ≤ q ∧
          Hid (q < facN (k - j) ∧ out.length = j ∧ left.length = k - j ∧ out ++ takeBy (k - j) left q = C) ∧ Hid (wr.ownsRow B 3 1 (.slice (some ⟨G + 1, 0, none⟩) (k - j) k) (k - j) (ints left)) ∧
          Hid (Arr wr G (padR out)) ∧ Hid (Arr wr B zero7) ∧ Below B w wr) (fun _ _ i _ => k - (intOf i).toNat)
      case atStart => exact ⟨0, [], upFrom 0 k, k0, Nat.zero_le _, rfl, rfl, by simp, h0, ⟨by simpa using HK0.out, rfl, by simp, HC0.out⟩, by simpa using HO2, hG, hR, hbl⟩
      case round =>
        obtain ⟨j, out, left, q, hj, rfl, rfl, rfl, hq0, hall, hown, hG2, hR2, hbl2⟩ := hrel
        clear HO2 hG hR hbl HK0 HC0
        by_cases hjk : j < k
        · obtain ⟨m, hm⟩ : ∃ m, k - j = m + 1 := ⟨k - j - 1, by omega⟩
          rw [hm] at hall hown
          obtain ⟨hqf, hol, hll, hct⟩ := hall.out
          have hmb := place_bd m q (by omega) hq0 hqf
          rw [takeBy] at hct
          have hfb := facN_bd m
          obtain ⟨f, hf⟩ : ∃ f, f = facN m := ⟨_, rfl⟩
          rw [← hf] at hmb hct hfb
          obtain ⟨pl, hpl⟩ : ∃ pl : Nat, q / f = (pl : Int) := ⟨(q / f).toNat, by omega⟩
          obtain ⟨r, hr⟩ : ∃ r, r = q % f := ⟨_, rfl⟩
          rw [hpl, ← hr, Int.toNat_natCast] at hct
          obtain ⟨hp0, hp1, hr0, hr1⟩ := hmb
          rw [← hr] at hr0 hr1
          rw [hpl] at hp1
          have hplm : pl ≤ m := by omega
          obtain ⟨hf1, hf2⟩ := hfb
          have hquo : wrap64 (q.tdiv f) = (pl : Int) := by
            rw [Int.tdiv_eq_ediv_of_nonneg hq0, hpl]
            exact IntWalk.wrap64_in _ ⟨by omega, by omega⟩
          have hcx : wr.cell? ⟨G + 1, pl, none⟩ = some (.int .i64 (left.getD pl 0)) := by
            rw [hown.out.cellAt pl (by omega), ints_get _ _ (by omega)]
          have hp7 : (padR out).length = 7 := padR_length _ (by omega)
          have hcg := hG2.out.cell (i := j) (by omega)
          have hfg := hG2.out.frozen j
          have hst := hG2.out.set_ j (left.getD pl 0)
          rw [pad_out out j _ hol (by omega)] at hst
          have HST := Lib.hid hst
          have hgs : wr.grownBy (wr.setCell ⟨G, j, none⟩ (.int .i64 (left.getD pl 0))) (some G) := ⟨rfl, rfl, rfl, by simp [World.setCell], fun i _ hne => Below.heap_setCell _ _ _ _ (fun e => hne (by simp [e]))⟩
          have HOW := Lib.hid (hown.out.kept hgs (by simp [Value.ownBlock]))
          have HRR := Lib.hid (hR2.out.far (p := ⟨G, j, none⟩) (by simp; omega) (.int .i64 (left.getD pl 0)))
          have HBL := Lib.hid (hbl2.setCell (p := ⟨G, j, none⟩) (by simp; omega) (.int .i64 (left.getD pl 0)))
          have HLL := Lib.hid hll
          have HCT : Hid ((out ++ [left.getD pl 0]) ++ takeBy m (left.eraseIdx pl) r = C) := by
            rw [Hid, List.append_assoc]; exact hct
          have HOL : Hid ((out ++ [left.getD pl 0]).length = j + 1) := by rw [Hid, List.length_append, hol]; rfl
          have HEL : Hid ((left.eraseIdx pl).length = m) := by rw [Hid, List.length_eraseIdx, if_pos (by omega)]; omega
          have HF := Lib.hid hf
          have hrr := hr.symm
          have HRE := Lib.hid hrr
          have hm6 : m ≤ 6 := by omega
          have HRF : Hid (r < facN m) := by rw [Hid, ← HF.out]; exact hr1
          have hkj : Hid (k - (j + 1) = m) := by rw [Hid]; omega
          have hm1 : ((k : Int) - 1 - (j : Int)) = (m : Int) := by omega
          have HM1 := Lib.hid hm1
          have hmj : m + 1 + j = k := by omega
          clear hall hown hqf hol hll hct hf hr hst hp7 hgs hG2 hR2 hbl2 hr1 hm1
          generalize (padR out).getD j 0 = old at hcg
          generalize hx : left.getD pl 0 = x at *
          clear hx
          rw [hm]
          have hmj2 := Lib.hid hmj
          have hjm : j ≤ k := by omega
          clear hmj hm
          go_wp2_with fail
          refine (facI_nat m _ _ HM1.out (by have := hmj2.out; omega)).mono ?_
          rintro e w' ⟨rfl, rfl⟩
          rw [← HF.out]
          go_wp2_with fail
          refine (delete_any (G + 1) (m + 1) k B pl left _ _ _ HOW.out HLL.out (by omega) (by first | rfl | omega) (by first | rfl | omega)).mono ?_
          rintro e w5 ⟨rfl, ho5, hg5⟩
          have HO5 := Lib.hid ho5
          have hs5 := hg5.size
          have HG5 := Lib.hid (HST.out.grown hg5 (by omega))
          have HR5 := Lib.hid (HRR.out.grown hg5 (by omega))
          have HB5 := Lib.hid (HBL.out.grown hg5 (by have := HRR.out.lt; omega) (by simp; omega))
          clear ho5 hg5 hquo hrr hcx hcg hfg
          go_wp2
          go_roundw
          case rel =>
            refine ⟨j + 1, out ++ [x], left.eraseIdx pl, r, by have := hmj2.out; omega, by go_num, by first | rfl | rw [HRE.out], by rw [hkj.out], hr0, ?_, ?_, HG5, HR5, HB5⟩
            · rw [hkj.out]
              exact ⟨HRF.out, HOL.out, HEL.out, HCT.out⟩
            · rw [hkj.out]
              exact HO5
          case measure => have := hmj2.out; simp [intOf]; omega
        · obtain rfl : j = k := by omega
          have hCe : Hid (out = C) := by
            have := hall.out.2.2.2
            rw [Nat.sub_self, takeBy, List.append_nil] at this
            exact this
          rw [hCe.out] at hG2
          have hlr := hR2.out.lt
          go_wp2_with (first
            | (refine load_ring rfl _ rfl G (padR C) HC7.out rfl hG2 ?_)
            | (refine store_ring rfl _ _ rfl B zero7 (padR C) rfl HC7.out rfl rfl hR2 ?_; intro w6 HB6 hg6 _))
          try simp only [Exit.inBlock, Exit.then]
          exact ret_ring rfl B (padR C) HC7.out rfl HB6 rfl ⟨rfl, by rw [HB.out]; exact hbl2.grown hg6 (by omega) (by simp)⟩
end Go.Proofs.Ytbfdbnminjhocaa

namespace Go.Proofs.Ytbfdbnminjhocaa
open Go.ChangeShapes Go.WideShapes Go.ChangeAt Go.RowKit

/-- An append onto a row of the call's own, as one step of a region that draws its order. -/
theorem step_append_at {ops : Array Oper} {o : Oper} {a : Act} {K : Act → World → Prop} {Q : Exit → Act → World → Prop} {E : Prop} (w : World) (hgd : o.guard = none) (s x : Operand)
    (ho : o.op = .call { callee := .builtin .append, args := #[s, x], argTypes := #[23, 23] })
    (B : Nat) (v : Value) (n : Nat) (xs : List Value) (hs : a.eval s = v) (hown : w.ownsRow B 3 1 v n xs)
    (ad : Addr) (m c : Nat) (news : List Int) (hx : a.eval x = .slice (some ad) m c) (hl : news.length = m) (hnews : ∀ j u, (ints news)[j]? = some u → w.cell? (ad.add j) = some u)
    (h63 : n + m ≤ 1048576) (hbase : B ≤ w.heap.size)
    (h : ∀ v' w', w'.ownsRow B 3 1 v' (n + m) (xs ++ ints news) → w.grownBy w' v.ownBlock → (v'.ownBlock = v.ownBlock ∨ v'.ownBlock = some w.heap.size) → K (a.put o.dst v') w') :
    if Region.wanted o (yielded ops a.tmps) = true then Oper.wp Try.prog o a w K Q else E := by
  have hw : Region.wanted o (yielded ops a.tmps) = true := by simp [Region.wanted, hgd]
  rw [if_pos hw]
  obtain ⟨i0, hi, hz0, hz1, hz2⟩ := info_parts int_info
  obtain ⟨v', w', hr, h2, h3, _, h5⟩ := run_append_own_at (P := Try.prog) w B 23 o.type 3 i0 (.int .i64 0) 1 8 Try.underlying23 hi hz0 hz1 hz2 rfl (by decide) v n xs hown ad m c (ints news) (by simp [hl]) hnews (ints_oneCell news) (by unfold maxLen; omega) (by omega) hbase
  unfold Oper.wp execOp
  simp only [ho, resolve, invoke, builtin, Sem.run_bind, Sem.run_pure, Result.andThen_ok, List.map_toArray, List.map_cons, List.map_nil, hs, hx, hr]
  exact h v' w' h2 h3 h5

theorem elem_ints : Try.prog.elem 23 = 3 := by kernel_rfl

/-- The head of a slice up to a length. -/
theorem slice_head (W : World) (g n c m : Nat) (hm : m ≤ c) :
    (Instr.slice 23 (.slice (some ⟨g, 0, none⟩) n c) none (some (.int .i64 (m : Int))) none).run Try.prog W = .ok (.slice (some ⟨g, 0, none⟩) m c) W := by
  obtain ⟨i, hi, _, hs, _⟩ := info_parts int_info
  have h := run_slice_h (P := Try.prog) W 23 (some ⟨g, 0, none⟩) n c (by rw [elem_ints]; exact Try.underlying23) .i64 (m : Int) (by omega) (by omega)
  rw [h, elem_ints, run_sizeOf W hi, Result.andThen_ok]
  simp [sliced, Addr.add]

/-- The tail of a slice from a place on. -/
theorem slice_tail (W : World) (g n c m : Nat) (hm : m ≤ n) (_ : n ≤ c) :
    (Instr.slice 23 (.slice (some ⟨g, 0, none⟩) n c) (some (.int .i64 (m : Int))) none none).run Try.prog W = .ok (.slice (some (if c = m then ⟨g, 0, none⟩ else ⟨g, m, none⟩)) (n - m) (c - m)) W := by
  obtain ⟨i, hi, _, hs, _⟩ := info_parts int_info
  have h := run_slice_l (P := Try.prog) W 23 (some ⟨g, 0, none⟩) n c (by rw [elem_ints]; exact Try.underlying23) .i64 (m : Int) (by omega) (by omega)
  rw [h, elem_ints, run_sizeOf W hi, Result.andThen_ok, cells_int]
  by_cases e : c = m
  · simp [sliced, e]
  · simp [sliced, e, Addr.add_lit]

set_option maxRecDepth 4000 in
set_option maxHeartbeats 2000000 in
theorem byS_any (n : Nat) (k0 : Int) (w : World) (h3 : 3 ≤ n) (h7 : n ≤ 7) (h0 : 0 ≤ k0) (hk : k0 < facN (n - 1)) :
    Calls Try.prog 83 #[.int .i64 (n : Int), .int .i64 k0] w fun e w' => ∃ v, e = .returned v ∧ Own w' w.heap.size v (byL n k0) ∧ Below w.heap.size w w' := by
  obtain ⟨i0, hi, hz0, hz1, hz2⟩ := info_parts int_info
  have HC0 := Lib.hid (byL_eq n k0 (by omega) h7 h0 hk)
  have HCL := Lib.hid (byL_length n k0)
  have HK0 := Lib.hid hk
  clear hk
  generalize byL n k0 = C at *
  have ho0 := Lib.hid (own_empty w _ (Nat.le_refl _))
  have hb0 := (Below.refl w.heap.size w).alloc (Nat.le_refl _) (.cells #[] 3)
  go_enter Try.func83, Try.ntmps83
  go_wp2
  obtain ⟨W0, hW0⟩ : ∃ W, W = w.alloc (.cells #[] 3) := ⟨_, rfl⟩
  rw [← hW0] at ho0 hb0 ⊢
  clear hW0
  go_loopw [5, 6] (fun v i wr => ∃ k : Nat, k + 1 ≤ n ∧ i = .int .i64 ((k : Int) + 1) ∧ Hid (wr.ownsRow w.heap.size 3 1 v k (ints (upFrom 1 k))) ∧ Below w.heap.size w wr) (fun _ i _ => n - (intOf i).toNat)
  case atStart => exact ⟨0, by omega, by go_num, by simpa [Own, Hid, ints, upFrom] using ho0.out, hb0⟩
  case round =>
    obtain ⟨k, hk, rfl, hown, hbl⟩ := hrel
    clear ho0 hb0
    by_cases hlt : k + 1 < n
    · have hsn : Hid (ints (upFrom 1 k) ++ [.int .i64 ((k : Int) + 1)] = ints (upFrom 1 (k + 1))) := by
        rw [Hid, upFrom_snoc, ints, ints, List.map_append]
        simp [Int.add_comm]
      go_wp2_with (at_builtin; refine wpList_append_own _ rfl _ _ 23 rfl w.heap.size 3 i0 (.int .i64 0) 1 8 Try.underlying23 hi hz0 hz1 hz2 rfl (by decide) _ _ _ rfl (hown.out.alloc _) ⟨wr.heap.size, 0, none⟩ 1 1 [.int .i64 ((k : Int) + 1)] rfl rfl (one_cell wr _ _) (by simp [Value.oneCell']) (by unfold maxLen; omega) (by omega) (by have := hbl.size; simp; omega) ?_)
      intro v' w1 hown' hgrow _
      rw [hsn.out] at hown'
      have HO := Lib.hid hown'
      have hb1 := own_below hown.out hbl hbl.size hgrow
      clear hown' hgrow
      go_wp2
      go_roundw
      case rel => exact ⟨k + 1, by omega, by go_num, HO, hb1⟩
      case measure => simp [intOf]; omega
    · obtain ⟨k', rfl⟩ : ∃ k', k' = k := ⟨k, rfl⟩
      have hkn : k' + 1 = n := by omega
      have HKN := Lib.hid hkn
      have hln := hown.out.lt
      have HLB : Hid (∀ q, u5.ownBlock = some q → q < wr.heap.size) := fun q hq => (hln q hq).2
      have hs1 := hbl.size
      have hnl : (n : Int) ≤ (k' : Int) + 1 := by omega
      have hO : (wr.alloc (.cells #[.int .i64 0] 3)).ownsRow w.heap.size 3 1 (.slice (some ⟨wr.heap.size, 0, none⟩) 1 1) 1 (ints [0]) := World.ownsRow_lit wr #[.int .i64 0] 1 hs1 (by unfold maxLen; omega) rfl
      have hL : (wr.alloc (.cells #[.int .i64 0] 3)).ownsRow w.heap.size 3 1 u5 k' (ints (upFrom 1 k')) := hown.out.alloc _
      have hb2 := Lib.hid (hbl.alloc hs1 (.cells #[.int .i64 0] 3))
      have HO := Lib.hid hO
      have HL := Lib.hid hL
      have HNE : Hid (∀ q, u5.ownBlock = some q → (Value.slice (some ⟨wr.heap.size, 0, none⟩) 1 1).ownBlock ≠ some q) := fun q hq he => by
        have := HLB.out q hq
        simp [Value.ownBlock] at he
        omega
      clear hln hkn hO hL hown hbl HLB
      go_wp2
      obtain ⟨wo, rfl⟩ : ∃ wo : World, wo = wr := ⟨_, rfl⟩
      go_loopw [1, 5, 7, 8] (fun kk vl vo i wr => ∃ (m : Nat) (L O : List Int) (q : Int), m + 1 ≤ n ∧ i = .int .i64 ((m : Int) - 1) ∧ kk = .int .i64 q ∧ 0 ≤ q ∧
          Hid (q < facN m ∧ L.length = m ∧ O.length = n - m ∧ O ++ takeBy m L q = C) ∧ Hid (wr.ownsRow w.heap.size 3 1 vl m (ints L)) ∧ Hid (wr.ownsRow w.heap.size 3 1 vo (n - m) (ints O)) ∧
          Hid (∀ q, vl.ownBlock = some q → vo.ownBlock ≠ some q) ∧ Hid (Below w.heap.size w wr)) (fun _ _ _ i _ => (intOf i + 1).toNat)
      case atStart =>
        refine ⟨k', upFrom 1 k', [0], k0, by have := HKN.out; omega, by have := HKN.out; go_num, rfl, h0, ?_, HL, ?_, HNE, hb2⟩
        · have e := HKN.out
          have e1 : n - 1 = k' := by omega
          have e2 : n - k' = 1 := by omega
          refine ⟨by rw [← e1]; exact HK0.out, by simp, by rw [e2]; rfl, ?_⟩
          rw [HC0.out, e1]; rfl
        · have e2 : n - k' = 1 := by have := HKN.out; omega
          rw [e2]; exact HO
      case round =>
        obtain ⟨m, L, O, q, hm, rfl, rfl, hq0, hall, hL, hO, hne, hbl⟩ := hrel
        clear HL HO HNE hb2 HK0 HC0
        by_cases hm0 : m = 0
        · subst hm0
          have hfin : Hid (O = C) := by
            have := hall.out.2.2.2
            rw [takeBy, List.append_nil] at this
            exact this
          have hOl := hall.out.2.2.1
          have HOl := Lib.hid hOl
          clear hOl
          go_wp2
          go_ret
          refine ⟨_, rfl, ?_, hbl.out⟩
          have := hO.out
          rw [hfin.out] at this
          have e : n - 0 = C.length := by rw [← hfin.out, HOl.out]
          rw [e] at this
          exact this
        · obtain ⟨m', rfl⟩ : ∃ m', m = m' + 1 := ⟨m - 1, by omega⟩
          obtain ⟨hqf, hLl, hOl, hct⟩ := hall.out
          have hmb := place_bd m' q (by omega) hq0 hqf
          rw [takeBy] at hct
          have hfb := facN_bd m'
          obtain ⟨f, hf⟩ : ∃ f, f = facN m' := ⟨_, rfl⟩
          rw [← hf] at hmb hct hfb
          obtain ⟨pl, hpl⟩ : ∃ pl : Nat, q / f = (pl : Int) := ⟨(q / f).toNat, by omega⟩
          obtain ⟨r, hr⟩ : ∃ r, r = q % f := ⟨_, rfl⟩
          rw [hpl, ← hr, Int.toNat_natCast] at hct
          obtain ⟨hp0, hp1, hr0, hr1⟩ := hmb
          rw [← hr] at hr0 hr1
          rw [hpl] at hp1
          have hplm : pl ≤ m' := by omega
          obtain ⟨hf1, hf2⟩ := hfb
          have hm6 : m' ≤ 6 := by omega
          have hquo : wrap64 (q.tdiv f) = (pl : Int) := by
            rw [Int.tdiv_eq_ediv_of_nonneg hq0, hpl]
            exact IntWalk.wrap64_in _ ⟨by omega, by omega⟩
          have hrr := hr.symm
          have HRE := Lib.hid hrr
          have HF := Lib.hid hf
          have HRF : Hid (r < facN m') := by rw [Hid, ← HF.out]; exact hr1
          have HLL := Lib.hid hLl
          have HOL := Lib.hid hOl
          have HCT : Hid ((O ++ [L.getD pl 0]) ++ takeBy m' (L.eraseIdx pl) r = C) := by
            rw [Hid, List.append_assoc]; exact hct
          have HEL : Hid ((L.eraseIdx pl).length = m') := by rw [Hid, List.length_eraseIdx, if_pos (by omega)]; omega
          rcases hL.out.2 with ⟨_, h00⟩ | ⟨gl, cl, cur, rfl, hgB, hh, hnc, hcm, hcs, htk⟩
          · omega
          · have hcx : wr.cell? ⟨gl, pl, none⟩ = some (.int .i64 (L.getD pl 0)) := by
              rw [hL.out.cellAt pl (by omega), ints_get _ _ (by omega)]
            have hgl : gl < wr.heap.size := (hL.out.lt gl rfl).2
            have hsz := hbl.out.size
            have hsnO : Hid (ints O ++ [.int .i64 (L.getD pl 0)] = ints (O ++ [L.getD pl 0])) := by rw [Hid, ints, ints, List.map_append]; rfl
            have hneq := Lib.hid (fun e => hne.out gl rfl (Eq.symm e))
            unfold maxLen at hcm
            clear hall hqf hLl hOl hct hf hr hr1 hgB hh hcs htk
            obtain ⟨x, hx⟩ : ∃ x, x = L.getD pl 0 := ⟨_, rfl⟩
            rw [← hx] at hcx hsnO HCT
            clear hx
            go_wp2_with fail
            refine (facS_nat m' _ _ (by omega) (by omega)).mono ?_
            rintro e w' ⟨rfl, rfl⟩
            rw [← HF.out]
            go_wp2_with (at_builtin; refine wpList_append_own_at _ rfl _ _ 23 rfl w.heap.size 3 i0 (.int .i64 0) 1 8 Try.underlying23 hi hz0 hz1 hz2 rfl (by decide) _ _ _ rfl (hO.out.alloc _) ⟨wr.heap.size, 0, none⟩ 1 1 [.int .i64 x] rfl rfl (one_cell wr _ _) (by simp [Value.oneCell']) (by unfold maxLen; omega) (by omega) (by simp; omega) ?_)
            intro vo1 w1 ho1 hg1 _ hat1
            rw [hsnO.out] at ho1
            have hs1 := hg1.size
            have hL1 := (hL.out.alloc (.cells #[.int .i64 x] 3)).kept hg1 (.inr hneq.out)
            have hb1 := hbl.out.alloc (by omega) (.cells #[.int .i64 x] 3)
            have hb2 := Lib.hid (hb1.grown hg1 (by simp; omega) (fun z hz => (hO.out.lt z hz).1))
            have hn1 : Hid (∀ z, vo1.ownBlock = some z → z ≠ gl ∧ z < w1.heap.size) := fun z hz => by
              refine ⟨?_, (ho1.lt z hz).2⟩
              rcases hat1 with e | e
              · rw [e] at hz
                intro hzz
                subst hzz
                exact hneq.out hz.symm
              · rw [e] at hz
                injection hz with hz
                have hz2 : wr.heap.size + 1 = z := by simpa using hz
                omega
            have hglw : gl < w1.heap.size := by simp at hs1; omega
            have hBw1 : w.heap.size ≤ w1.heap.size := by simp at hs1; omega
            have HO1 := Lib.hid ho1
            have HLC : Hid (∀ W : World, (∀ z, z < w1.heap.size → W.heap[z]? = w1.heap[z]?) → ∀ (o m2 : Nat) (news : List Int), (∀ j, j < news.length → news.getD j 0 = L.getD (o + j) 0) → news.length = m2 → o + m2 ≤ m' + 1 →
                ∀ j u, (ints news)[j]? = some u → W.cell? ((⟨gl, o, none⟩ : Addr).add j) = some u) := fun W hW o m2 news hnew hnl hom j u hu => by
              have hj : j < news.length := by
                have := (List.getElem?_eq_some_iff.1 hu).1
                simpa using this
              rw [Addr.add_lit, World.cell?_of_block (w := w1) (hW gl hglw), hL1.cellAt (o + j) (by omega), ints_get _ _ (by rw [HLL.out]; omega), ← hnew j hj, ← hu, ints_get _ _ hj]
            have HE0 := Lib.hid (show (w1.alloc (.cells #[] 3)).drew.ownsRow w.heap.size 3 1 (.slice (some ⟨w1.heap.size, 0, none⟩) 0 0) 0 [] from own_empty w1 _ hBw1)
            have htake : Hid (∀ j, j < (L.take pl).length → (L.take pl).getD j 0 = L.getD (0 + j) 0) := fun j hj => by
              have hj2 : j < pl := by
                have := List.length_take_le pl L
                omega
              simp [List.getD, hj2]
            have hdrop : Hid (∀ j, j < (L.drop (pl + 1)).length → (L.drop (pl + 1)).getD j 0 = L.getD (pl + 1 + j) 0) := fun j _ => by
              simp [List.getD]
            have htl : Hid ((L.take pl).length = pl) := by rw [Hid, List.length_take, HLL.out]; omega
            have hdl : Hid ((L.drop (pl + 1)).length = m' + 1 - (pl + 1)) := by rw [Hid, List.length_drop, HLL.out]
            have hfin : Hid ([] ++ ints (L.take pl) ++ ints (L.drop (pl + 1)) = ints (L.eraseIdx pl)) := by
              rw [Hid, List.eraseIdx_eq_take_drop_succ]; simp [ints]
            have hw1 : IntKind.i64.wrap ((pl : Int) + 1) = (pl : Int) + 1 := IntWalk.i64_in _ (by omega)
            clear hL1 hb1 hg1 ho1 hat1 hL hO hne hbl hcx
            have hsA := fun W => slice_head W gl (m' + 1) cl pl (by omega)
            obtain ⟨ad, hade⟩ : ∃ ad : Addr, ad = if cl = pl + 1 then ⟨gl, 0, none⟩ else ⟨gl, pl + 1, none⟩ := ⟨_, rfl⟩
            have had : pl + 1 < cl → ad = ⟨gl, pl + 1, none⟩ := fun hlt => by rw [hade, if_neg (by omega)]
            have hsB : ∀ W : World, (Instr.slice 23 (.slice (some ⟨gl, 0, none⟩) (m' + 1) cl) (some (.int .i64 ((pl : Int) + 1))) none none).run Try.prog W = .ok (.slice (some ad) (m' + 1 - (pl + 1)) (cl - (pl + 1))) W := fun W => by
              have hr := slice_tail W gl (m' + 1) cl (pl + 1) (by omega) (by omega)
              rw [show (((pl + 1 : Nat)) : Int) = (pl : Int) + 1 by omega, ← hade] at hr
              exact hr
            clear hade
            have HLD : Hid (∀ W : World, (∀ z, z < w1.heap.size → W.heap[z]? = w1.heap[z]?) → ∀ j u, (ints (L.drop (pl + 1)))[j]? = some u → W.cell? (ad.add j) = some u) := fun W hW j u hu => by
              have hj : j < (L.drop (pl + 1)).length := by
                have := (List.getElem?_eq_some_iff.1 hu).1
                simpa using this
              have hj2 := hdl.out
              rw [had (by omega)]
              exact HLC.out W hW (pl + 1) _ _ hdrop.out hdl.out (by omega) j u hu
            clear had
            go_wp2
            go_region_law (first
              | (refine step_append_at _ rfl (.tmp 43) (.tmp 46) rfl w.heap.size _ 0 [] (by simp [Act.eval]) HE0.out ⟨gl, 0, none⟩ pl cl (L.take pl) (by simp [Act.eval]) htl.out (HLC.out _ (fun z hz => Below.heap_alloc _ _ _ hz) 0 pl _ htake.out htl.out (by omega)) (by omega) (by simp; omega) ?_; intro v1 w2 hv1 hgv1 hatv1; have HV1 := Lib.hid hv1; have hs2 := hgv1.size; have HW2 := Lib.hid (fun z (hz : z < w1.heap.size) => (hgv1.block z (by simp; omega) (by simp [Value.ownBlock]; omega)).trans (Below.heap_alloc w1 _ z hz)); clear hv1)
              | (refine step_append_at _ rfl (.tmp 47) (.tmp 51) rfl w.heap.size v1 (0 + pl) ([] ++ ints (L.take pl)) (by simp [Act.eval]) HV1.out ad (m' + 1 - (pl + 1)) (cl - (pl + 1)) (L.drop (pl + 1)) (by simp [Act.eval]) hdl.out (HLD.out _ HW2.out) (by omega) (by simp at hs2; omega) ?_; intro v2 w3 hv2 hgv2 hatv2))
            have hr1b : ∀ z, v1.ownBlock = some z → w1.heap.size ≤ z := fun z hz => by
              rcases hatv1 with e | e
              · rw [e] at hz
                simp [Value.ownBlock] at hz
                omega
              · rw [e] at hz
                injection hz with hz
                have : w1.heap.size + 1 = z := by simpa using hz
                omega
            have hs2b : w1.heap.size ≤ w2.heap.size := by simp at hs2; omega
            have hr2b : ∀ z, v2.ownBlock = some z → w1.heap.size ≤ z := fun z hz => by
              rcases hatv2 with e | e
              · rw [e] at hz
                exact hr1b z hz
              · rw [e] at hz
                injection hz with hz
                omega
            have HO3 : Hid (w3.ownsRow w.heap.size 3 1 vo1 (n - m') (ints (O ++ [x]))) := by
              have e1 : n - (m' + 1) + 1 = n - m' := by omega
              have h1 := ((HO1.out.alloc (.cells #[] 3)).drew).kept hgv1 (by
                rcases hv : vo1.ownBlock with _ | z
                · exact .inl rfl
                · right
                  intro e
                  simp [Value.ownBlock] at e
                  have := (hn1.out z hv).2
                  omega)
              have h2 := h1.kept hgv2 (by
                rcases hv : vo1.ownBlock with _ | z
                · exact .inl rfl
                · right
                  intro e
                  have := (hn1.out z hv).2
                  have := hr1b z e.symm
                  omega)
              rw [e1] at h2
              exact h2
            have HL3 : Hid (w3.ownsRow w.heap.size 3 1 v2 m' (ints (L.eraseIdx pl))) := by
              have e1 : 0 + pl + (m' + 1 - (pl + 1)) = m' := by omega
              rw [e1, hfin.out] at hv2
              exact hv2
            have HN3 : Hid (∀ z, v2.ownBlock = some z → vo1.ownBlock ≠ some z) := fun z hz e => by
              have := hr2b z hz
              have := (hn1.out z e).2
              omega
            have HB3 : Hid (Below w.heap.size w w3) :=
              (((hb2.out.alloc hBw1 (.cells #[] 3)).drew).grown hgv1 (by simp; omega) (by simp [Value.ownBlock]; omega)).grown hgv2 (by omega) (fun z hz => by have := hr1b z hz; omega)
            have HALL : Hid (r < facN m' ∧ (L.eraseIdx pl).length = m' ∧ (O ++ [x]).length = n - m' ∧ (O ++ [x]) ++ takeBy m' (L.eraseIdx pl) r = C) :=
              ⟨HRF.out, HEL.out, by rw [List.length_append, HOL.out]; simp; omega, HCT.out⟩
            clear hr1b hr2b hv2 hgv1 hgv2 hatv1 hatv2 hsA hsB hquo hrr hw1
            go_wp2
            go_roundw
            case rel => exact ⟨m', L.eraseIdx pl, O ++ [x], r, by omega, by go_num, by first | rfl | rw [HRE.out], hr0, HALL, HL3, HO3, HN3, HB3⟩
            case measure => simp [intOf]
end Go.Proofs.Ytbfdbnminjhocaa

namespace Go.Proofs.Ytbfdbnminjhocaa
open Go.ChangeShapes Go.WideShapes Go.ChangeAt Go.RowKit

theorem byIm_any (n k : Int) (w : World) :
    Calls Try.prog 20 #[.int .i64 n, .int .i64 k] w fun e w' => ∃ v, e = .returned (.tuple #[v, .bool (byB n k)]) ∧ Own w' w.heap.size v (byR n k) ∧ Below w.heap.size w w' := by
  have hc := fun W => Lib.hid (countI_any n W)
  by_cases hn : 3 ≤ n ∧ n ≤ 7
  · obtain ⟨n', rfl⟩ : ∃ n' : Nat, n = n' := ⟨n.toNat, by omega⟩
    obtain ⟨h3, h7⟩ := hn
    have hb1 : (decide ((3 : Int) ≤ (n' : Int)) && decide ((n' : Int) ≤ 7)) = true := by simp; omega
    have hrc : rcount n' = facN (n' - 1) := by unfold rcount; rw [if_pos ⟨h3, h7⟩, Int.toNat_natCast]
    rw [hb1, hrc] at hc
    have hfb := facN_bd (n' - 1)
    obtain ⟨f, hf⟩ : ∃ f, f = facN (n' - 1) := ⟨_, rfl⟩
    rw [← hf] at hfb hc
    obtain ⟨hf1, hf2⟩ := hfb
    have HC := Lib.hid hc
    have hbb : byB n' k = decide (0 ≤ k ∧ k < f) := by
      unfold byB
      rw [Int.toNat_natCast, ← hf, decide_eq_decide]
      omega
    unfold byR
    rw [hbb]
    by_cases hk0 : 0 ≤ k
    · by_cases hk1 : k < f
      · have hb2 : decide (0 ≤ k ∧ k < f) = true := by simp; omega
        have hkn : k < facN n' := by
          have e := facN_succ (n' - 1) (by omega)
          rw [show n' - 1 + 1 = n' by omega, ← hf] at e
          rw [e]
          have : 1 * f ≤ (n' : Int) * f := Int.mul_le_mul_of_nonneg_right (by omega) (by omega)
          omega
        have hB := fun W => Lib.hid (numbered_any n' k W (by omega) (by omega) hk0 hkn)
        have hL := fun W => Lib.hid (list_any (byL n' k) W (by rw [byL_length]; omega) (by rw [byL_length]; omega) (byL_pos n' k (by omega) hk0 hkn))
        have HB := Lib.hid hB
        have HLI := Lib.hid hL
        rw [hb2, if_pos rfl, Int.toNat_natCast]
        unfold agp at HB HLI
        clear hbb hf hB hL hkn hc hrc hb1
        generalize byL n' k = r at *
        generalize padR r = Q at *
        go_enter Try.func20, Try.ntmps20
        go_wp2_with (go_at_call 27; refine ((HC.out _).out).mono ?_; rintro e w' ⟨rfl, rfl⟩)
        refine ((HB.out _).out).mono ?_
        rintro e w1 ⟨rfl, hb⟩
        have HB1 := Lib.hid hb
        have hs := hb.size
        clear hb
        go_wp2_with fail
        refine ((HLI.out _).out).mono ?_
        rintro e w2 ⟨v, rfl, ho, hb⟩
        have HO := Lib.hid (own_less ho hs)
        have HB2 := Lib.hid (HB1.out.trans (hb.mono hs))
        clear ho hb
        go_wp2
        go_ret2
        exact ⟨_, rfl, HO.out, HB2.out⟩
      · have hb2 : decide (0 ≤ k ∧ k < f) = false := by simp; omega
        rw [hb2, if_neg (by simp)]
        clear hbb hf hc hrc hb1
        go_enter Try.func20, Try.ntmps20
        go_wp2_with (go_at_call 27; refine ((HC.out _).out).mono ?_; rintro e w' ⟨rfl, rfl⟩)
        go_ret2
        exact ⟨_, rfl, World.ownsRow_nil _ _ _ _, Below.refl _ _⟩
    · have hb2 : decide (0 ≤ k ∧ k < f) = false := by simp; omega
      rw [hb2, if_neg (by simp)]
      clear hbb hf hc hrc hb1
      go_enter Try.func20, Try.ntmps20
      go_wp2_with (go_at_call 27; refine ((HC.out _).out).mono ?_; rintro e w' ⟨rfl, rfl⟩)
      go_ret2
      exact ⟨_, rfl, World.ownsRow_nil _ _ _ _, Below.refl _ _⟩
  · have hb1 : (decide ((3 : Int) ≤ n) && decide (n ≤ 7)) = false := by simp; omega
    have hbb : byB n k = false := by
      unfold byB
      rw [decide_eq_false_iff_not]
      omega
    rw [hb1] at hc
    have HC := Lib.hid hc
    unfold byR
    rw [hbb, if_neg (by simp)]
    clear hbb hn hc hb1
    generalize rcount n = z at *
    go_enter Try.func20, Try.ntmps20
    go_wp2_with (go_at_call 27; refine ((HC.out _).out).mono ?_; rintro e w' ⟨rfl, rfl⟩)
    go_ret2
    exact ⟨_, rfl, World.ownsRow_nil _ _ _ _, Below.refl _ _⟩
end Go.Proofs.Ytbfdbnminjhocaa
