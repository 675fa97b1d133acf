/- Several texts as one: Has3 Cnt Rings Agree Shared InT BackT3 First RingT. -/
import Derived.Test.YtamnacgclhaggabPE
import Derived.Test.YtamnacgclhaggabPR
import Derived.Deep.RegionHeld3
import Derived.Test.YtamnacgclhaggabMA
import Derived.Deep.RegionHeldLaw
import Derived.Deep.AppendLies
namespace Go.Proofs.Ytamnacgclhaggab
open Go.ChangeShapes Go.WideShapes Go.ChangeAt Go.RowKit

def has3 (l t : List Int) : Bool := decide (stepsI l (t.getD 0 0) (t.getD 1 0) < stepsI l (t.getD 0 0) (t.getD 2 0))

set_option maxHeartbeats 1000000 in
theorem l2Has_any (A : Option Addr) (n c H : Nat) (l : List Int) (A' : Option Addr) (c' H' : Nat) (x y z : Int) (w : World) (h : Rd w H A n l) (h' : Rd w H' A' 3 [x, y, z]) (h1 : 1 ≤ n) (hn : n ≤ 7) (hx : x ∈ l) (hy : y ∈ l) (hz : z ∈ l) :
    Calls Try.prog 92 #[.slice A n c, .slice A' 3 c'] w fun e w' => e = .returned (.bool (has3 l [x, y, z])) ∧ ∃ q, w' = w.drewN q := by
  have HY := Lib.hid (fun W (hW : Rd W H A n l) => (st_any A n c H l x y W hW h1 hn hx hy).mono (fun e w' (hh : e = .returned (.int .i64 (stepsI l x y)) ∧ W = w') => (⟨hh.1, hh.2.symm⟩ : e = .returned (.int .i64 (stepsI l x y)) ∧ w' = W)))
  have HZ := Lib.hid (fun W (hW : Rd W H A n l) => (st_any A n c H l x z W hW h1 hn hx hz).mono (fun e w' (hh : e = .returned (.int .i64 (stepsI l x z)) ∧ W = w') => (⟨hh.1, hh.2.symm⟩ : e = .returned (.int .i64 (stepsI l x z)) ∧ w' = W)))
  obtain ⟨b, o, rfl, _, c0, c1, c2⟩ := rd3 h'
  have HR := Lib.hid (fun q => h.drewN q)
  have hr : has3 l [x, y, z] = decide (stepsI l x y < stepsI l x z) := rfl
  rw [hr]
  clear hx hy hz h h' hr
  generalize stepsI l x y = s at *
  generalize stepsI l x z = t at *
  go_enter Try.func92, Try.ntmps92
  go_wp2
  go_quiet (first
    | (go_at_call_of 126 (Value.int IntKind.i64 y); refine Calls.quiet_of_same (HY.out _ (HR.out _)))
    | (go_at_call_of 126 (Value.int IntKind.i64 z); refine Calls.quiet_of_same (HZ.out _ (HR.out _))))
  go_wp2
  go_ret
  exact ⟨rfl, nq, rfl⟩

set_option maxRecDepth 10000 in
set_option maxHeartbeats 2000000 in
theorem hasThree_any (l : List Int) (x y z : Int) (w : World) (h1 : 1 ≤ l.length) (hl : l.length ≤ 7) (hp : ∀ x ∈ l, 0 ≤ x) (hx : x ∈ l) (hy : y ∈ l) (hz : z ∈ l) :
    Calls Try.prog 119 #[agp l, .agg (ints [x, y, z]).toArray] w fun e w' => e = .returned (.bool (has3 l [x, y, z])) ∧ Below w.heap.size w w' := by
  obtain ⟨a0, a1, a2, a3, a4, a5, a6, hP⟩ := seven (padR_length l hl)
  have HY := fun W => Lib.hid (steps_any l x y W h1 hl hp hx hy)
  have HZ := fun W => Lib.hid (steps_any l x z W h1 hl hp hx hz)
  have hr : has3 l [x, y, z] = decide (stepsI l x y < stepsI l x z) := rfl
  rw [hr]
  unfold agp at HY HZ ⊢
  rw [hP] at HY HZ ⊢
  simp only [ints, List.map_cons, List.map_nil] at HY HZ ⊢
  have HYY := Lib.hid HY
  have HZZ := Lib.hid HZ
  clear hP hp HY HZ hx hy hz hr
  generalize stepsI l x y = s at *
  generalize stepsI l x z = t at *
  obtain ⟨W0, hW0⟩ : ∃ W, W = w.alloc (.cells (ints [a0, a1, a2, a3, a4, a5, a6]).toArray 50) := ⟨_, rfl⟩
  obtain ⟨W, hW⟩ : ∃ W, W = W0.alloc (.cells (ints [x, y, z]).toArray 112) := ⟨_, rfl⟩
  have k1 : Arr W0 w.heap.size [a0, a1, a2, a3, a4, a5, a6] := by rw [hW0]; exact heap_alloc_new w _
  have k0 : W0.heap.size = w.heap.size + 1 := by rw [hW0]; simp
  have k2 : Arr W w.heap.size [a0, a1, a2, a3, a4, a5, a6] := by rw [hW]; exact k1.alloc _
  have k3 : Tri W (w.heap.size + 1) [x, y, z] := by rw [hW, ← k0]; exact Blk.new W0 _
  have k5 : W.heap.size = w.heap.size + 2 := by rw [hW]; simp [k0]
  have kb : Below w.heap.size w W := by rw [hW, hW0]; exact ((Below.refl _ _).alloc (Nat.le_refl _) _).alloc (by simp) _
  have HB := Lib.hid kb
  have HK := Lib.hid (fun (V : World) (hV : Below (w.heap.size + 2) W V) => (⟨cells7 (k2.below hV (by omega)), (k3.below hV (by omega)).cell (i := 0) (by simp), (k3.below hV (by omega)).cell (i := 1) (by simp), (k3.below hV (by omega)).cell (i := 2) (by simp)⟩ : _ ∧ _ ∧ _ ∧ _))
  simp only [ints, List.map_cons, List.map_nil] at hW0 hW
  go_enter Try.func119, Try.ntmps119
  go_wp2
  rw [← hW0, ← hW]
  clear hW0 hW k1 k0 k2 k3 kb
  have HSZ := Lib.hid k5
  have hBW : w.heap.size + 2 ≤ W.heap.size := by omega
  clear k5
  generalize hB : w.heap.size = B at *
  have HBB := Lib.hid hB
  clear hB
  have HST := Lib.hid (fun (V V' : World) (h1 : Below (B + 2) W V) (h2 : Below V.heap.size V V') => h1.trans (h2.mono (by have := h1.size; omega)))
  go_region_held3 (fun V => ((V.cell? ⟨B, 0, none⟩ = some (.int .i64 a0) ∧ V.cell? ⟨B, 1, none⟩ = some (.int .i64 a1) ∧ V.cell? ⟨B, 2, none⟩ = some (.int .i64 a2) ∧ V.cell? ⟨B, 3, none⟩ = some (.int .i64 a3) ∧ V.cell? ⟨B, 4, none⟩ = some (.int .i64 a4) ∧ V.cell? ⟨B, 5, none⟩ = some (.int .i64 a5) ∧ V.cell? ⟨B, 6, none⟩ = some (.int .i64 a6)) ∧ V.cell? ⟨B + 1, 0, none⟩ = some (.int .i64 x) ∧ V.cell? ⟨B + 1, 1, none⟩ = some (.int .i64 y) ∧ V.cell? ⟨B + 1, 2, none⟩ = some (.int .i64 z)))
    (first
      | exact HK.out _ (Below.refl _ _).drew
      | exact HK.out _ HB1.out
      | exact HK.out _ HB2.out
      | exact HK.out _ HB3.out
      | exact HK.out _ HB4.out)
    (first
      | (go_at_call_of 135 (Value.int IntKind.i64 y); refine ((HYY.out _).out).mono ?_; rintro e w5 ⟨rfl, hb⟩; first | (have HB4 := Lib.hid (HST.out _ _ HB3.out hb); clear hb) | (have HB1 := Lib.hid (HST.out _ _ (Below.refl _ W).drew hb); clear hb))
      | (go_at_call_of 135 (Value.int IntKind.i64 z); refine ((HZZ.out _).out).mono ?_; rintro e w6 ⟨rfl, hb⟩; first | (have HB2 := Lib.hid (HST.out _ _ HB1.out hb); clear hb) | (have HB3 := Lib.hid (HST.out _ _ (Below.refl _ W).drew hb); clear hb)))
  all_goals
    go_wp2
    go_ret
    exact ⟨rfl, by rw [HBB.out]; exact HB.out.trans (by first | exact HB2.out.mono (by omega) | exact HB4.out.mono (by omega))⟩
end Go.Proofs.Ytamnacgclhaggab

namespace Go.Proofs.Ytamnacgclhaggab
open Go.ChangeShapes Go.WideShapes Go.ChangeAt Go.RowKit

def cntL (l : List Int) (L : List (List Int)) : Nat := (L.filter (has3 l)).length
theorem cntL_le (l : List Int) (L : List (List Int)) : cntL l L ≤ L.length := List.length_filter_le _ _
theorem cnt_step (l : List Int) (L : List (List Int)) (k : Nat) (h : k < L.length) : cntL l (L.take (k + 1)) = cntL l (L.take k) + if has3 l (rowK L k) then 1 else 0 := by
  unfold cntL
  rw [List.take_succ_eq_append_getElem h, List.filter_append, List.length_append]
  have e : rowK L k = L[k] := by simp [rowK, List.getD, h]
  rw [e]
  cases hh : has3 l L[k] <;> simp [hh]
theorem cnt_take (l : List Int) (L : List (List Int)) (k : Nat) : cntL l (L.take k) ≤ k := by
  have h1 := cntL_le l (L.take k)
  have h2 : (L.take k).length ≤ k := by rw [List.length_take]; omega
  omega

/-- Each row is three points of the ring. -/
def Mem3 (l : List Int) (L : List (List Int)) : Prop := ∀ t ∈ L, ∃ x y z, t = [x, y, z] ∧ x ∈ l ∧ y ∈ l ∧ z ∈ l

/-! ### All rings of n points -/
theorem IsR.mem3 {n : Nat} {l : List Int} (h : IsR n l) {L : List (List Int)} (hL : ∀ t ∈ L, Thr (n : Int) t) : Mem3 l L := fun t ht => by
  obtain ⟨x, y, z, rfl⟩ := of_three (hL t ht).1
  have hm := (hL _ ht).2.1
  exact ⟨x, y, z, rfl, h.2.2 x (hm x (by simp)).1 (hm x (by simp)).2, h.2.2 y (hm y (by simp)).1 (hm y (by simp)).2, h.2.2 z (hm z (by simp)).1 (hm z (by simp)).2⟩
end Go.Proofs.Ytamnacgclhaggab

namespace Go.Proofs.Ytamnacgclhaggab
open Go.ChangeShapes Go.WideShapes Go.ChangeAt Go.RowKit

def agreeL (n : Nat) (L : List (List Int)) : List (List Int) := (ringsL n).filter fun l => decide (cntL l L = L.length)
theorem agreeL_len (n : Nat) (L : List (List Int)) (h3 : 3 ≤ n) (h6 : n ≤ 6) : (agreeL n L).length ≤ 720 := by
  have h1 := List.length_filter_le (fun l => decide (cntL l L = L.length)) (ringsL n)
  rw [ringsL_length] at h1
  have := (facM_eq n h3 h6).2.1
  unfold agreeL; omega
def agreeTo (n : Nat) (L : List (List Int)) (k : Nat) : List (List Int) := ((List.range k).map fun j : Nat => byL n (j : Int)).filter fun l => decide (cntL l L = L.length)
theorem agreeTo_full (n : Nat) (L : List (List Int)) : agreeTo n L (facM n) = agreeL n L := rfl
theorem agreeTo_len (n : Nat) (L : List (List Int)) (k : Nat) : (agreeTo n L k).length ≤ k := by
  have h1 := List.length_filter_le (fun l => decide (cntL l L = L.length)) ((List.range k).map fun j : Nat => byL n (j : Int))
  simp only [List.length_map, List.length_range] at h1
  exact h1
theorem agreeTo_yes (n : Nat) (L : List (List Int)) (k : Nat) (h : cntL (byL n k) L = L.length) : agreeTo n L k ++ [byL n k] = agreeTo n L (k + 1) := by
  simp [agreeTo, List.range_succ, List.filter_append, h]
theorem agreeTo_no (n : Nat) (L : List (List Int)) (k : Nat) (h : ¬ cntL (byL n k) L = L.length) : agreeTo n L k = agreeTo n L (k + 1) := by
  simp [agreeTo, List.range_succ, List.filter_append, h]

/-- What is owned at its block's head is a row. -/
theorem Own.rowV {w : World} {B : Nat} {v : Value} {l : List Int} (h : Own w B v l) : RowV w B v l := by
  refine ⟨h.gen, ?_⟩
  rcases h.2 with ⟨e, h0⟩ | ⟨g, cap, cur, e, _, _, h2, h3, _⟩
  · exact ⟨none, 0, by rw [e, h0], by omega, by omega⟩
  · exact ⟨_, cap, e, h2, by unfold maxLen at h3; omega⟩

end Go.Proofs.Ytamnacgclhaggab

namespace Go.Proofs.Ytamnacgclhaggab
open Go.ChangeShapes Go.WideShapes Go.ChangeAt Go.RowKit

end Go.Proofs.Ytamnacgclhaggab

namespace Go.Proofs.Ytamnacgclhaggab
open Go.ChangeShapes Go.WideShapes Go.ChangeAt Go.RowKit

def sharedL (n : Nat) (R : List (List Int)) : List (List Int) := (everyL n).filter fun t => R.all fun l => has3 l t

end Go.Proofs.Ytamnacgclhaggab

namespace Go.Proofs.Ytamnacgclhaggab
open Go.ChangeShapes Go.WideShapes Go.ChangeAt Go.RowKit

def inB (l t : List Int) : Bool := ringB l && thr l.length t && has3 l t

theorem thr_mem {l t : List Int} (h : Tell l) (ht : Thr l.length t) : ∃ x y z, t = [x, y, z] ∧ x ∈ l ∧ y ∈ l ∧ z ∈ l := by
  obtain ⟨x, y, z, rfl⟩ := of_three ht.1
  have hm := ht.2.1
  exact ⟨x, y, z, rfl, h.has (hm x (by simp)).1 (hm x (by simp)).2, h.has (hm y (by simp)).1 (hm y (by simp)).2, h.has (hm z (by simp)).1 (hm z (by simp)).2⟩

end Go.Proofs.Ytamnacgclhaggab

namespace Go.Proofs.Ytamnacgclhaggab
open Go.ChangeShapes Go.WideShapes Go.ChangeAt Go.RowKit

/-- The three the other way. -/
def turn3 (l : List Int) : List Int := [l.getD 0 0, l.getD 2 0, l.getD 1 0]
def back3 (L : List (List Int)) : List (List Int) := L.map turn3
def backT (n : Int) (L : List (List Int)) : List (List Int) := if Tel n L then back3 L else []
theorem sumTo_small (L : List (List Int)) (h : ∀ l ∈ L, l.length ≤ 7) : ∀ k, k ≤ L.length → sumTo L k ≤ 7 * k
  | 0, _ => by simp [sumTo]
  | k + 1, hk => by
    have h1 := sumTo_small L h k (by omega)
    have h2 := h _ (rowK_mem (show k < L.length by omega))
    simp only [sumTo]; omega
theorem tot_small (L : List (List Int)) (h : ∀ l ∈ L, l.length ≤ 7) (hl : L.length ≤ 1000) : tot L ≤ 1048576 := by
  have := sumTo_small L h L.length (Nat.le_refl _)
  unfold tot; omega
theorem backT_tot (n : Int) (L : List (List Int)) : tot (backT n L) ≤ 1048576 := by
  unfold backT
  split
  · rename_i h
    refine tot_small _ (fun l hl => ?_) (by have := h.2.2.1; simp [back3]; omega)
    simp only [back3, List.mem_map] at hl
    obtain ⟨m, _, rfl⟩ := hl
    simp [turn3]
  · simp [tot, sumTo]
theorem back3_step (L : List (List Int)) (k : Nat) (h : k < L.length) : back3 (L.take k) ++ [turn3 (rowK L k)] = back3 (L.take (k + 1)) := by
  unfold back3
  rw [List.take_succ_eq_append_getElem h, List.map_append]
  simp only [rowK, List.getD, List.getElem?_eq_getElem h, Option.getD_some, List.map_cons, List.map_nil]

/-- The program's lists of threes. -/
theorem made_rows {w1 : World} {B n : Nat} {L : List (List Int)} {xs : List Value} (hown : w1.ownsRow B 23 1 (.slice (some ⟨B, 0, none⟩) n n) n xs) : Fill w1 B n L 0 := by
  rcases hown.2 with ⟨e, _⟩ | ⟨g, cap, cur, e, _, hg, _, _, hs, _⟩
  · cases e
  · injection e with e1 _ e3
    injection e1 with e1
    injection e1 with e1
    subst e1
    exact Fill.made hg (by rw [hs]; omega)

end Go.Proofs.Ytamnacgclhaggab

namespace Go.Proofs.Ytamnacgclhaggab
open Go.ChangeShapes Go.WideShapes Go.ChangeAt Go.RowKit

theorem ownG_dn {w : World} {B B' : Nat} {v : Value} {l : List Int} (h : OwnG w B v l) (hB : B' ≤ B) : OwnG w B' v l := by
  rcases h with e | ⟨g, o, c, cur, e, hb, rest⟩
  · exact .inl e
  · exact .inr ⟨g, o, c, cur, e, by omega, rest⟩

set_option maxRecDepth 10000 in
set_option maxHeartbeats 1000000 in
theorem firstList_any (v : Value) (C : Nat) (M : List (List Int)) (w : World) (h : RowN w C 50 7 v (padM M)) (hM : M.length ≤ 1000) (hI : ∀ l ∈ M, 1 ≤ l.length ∧ l.length ≤ 7 ∧ ∀ x ∈ l, 0 ≤ x) :
    Calls Try.prog 65 #[v] w fun e w' => ∃ v', e = .returned (.tuple #[v', .bool (decide (0 < M.length))]) ∧ OwnG w' w.heap.size v' (rowK M 0) ∧ Below w.heap.size w w' := by
  have hlen : (padM M).length = M.length := by simp [padM]
  by_cases h0 : 0 < M.length
  · obtain ⟨g, c', e0, _, _, _, _, _, _⟩ := h.elem (k := 0) (by rw [hlen]; exact h0)
    subst e0
    have HR2 := Lib.hid h
    have H0 : Hid (0 < (padM M).length) := by rw [hlen]; exact h0
    have HE : Hid (rowK (padM M) 0 = padR (rowK M 0)) := by simp [Hid, padM, rowK, List.getD, h0]
    have hi := hI _ (rowK_mem h0)
    have HLI := Lib.hid (fun W => list_any (rowK M 0) W hi.1 hi.2.1 hi.2.2)
    have HD : Hid (decide (0 < M.length) = true) := by simpa [Hid] using h0
    rw [HD.out]
    obtain ⟨z, hz⟩ : ∃ z, z = (padM M).length := ⟨_, rfl⟩
    rw [← hz] at HR2 H0 ⊢
    have HZ := Lib.hid hz.symm
    have hzb : z ≤ 1000 := by omega
    clear h hi hI h0 hlen hz
    have hz0 : 0 < z := H0.out
    have he' : ((z : Int) == 0) = false := by simp; omega
    go_enter Try.func65, Try.ntmps65
    go_wp2_with (first
      | (refine load_elem rfl _ 50 rfl _ rfl Try.underlying50 g z c' C 0 7 (padM M) HR2 (by rw [HZ.out]; exact hz0) ring_size rfl ?_; rw [HE.out])
      | (go_at_call 58; refine (HLI.out _).mono ?_; rintro e w3 ⟨v3, rfl, ho3, hb3⟩))
    go_ret2
    exact ⟨v3, rfl, ho3.gen, hb3⟩
  · have hz : (padM M).length = 0 := by omega
    have HD : Hid (decide (0 < M.length) = false) := by simpa [Hid] using h0
    have HE : Hid (rowK M 0 = []) := by rw [List.eq_nil_of_length_eq_zero (by omega : M.length = 0)]; rfl
    obtain ⟨A', d', rfl⟩ := h.slice
    rw [hz, HD.out, HE.out]
    clear h hM hI h0 hlen hz
    go_enter Try.func65, Try.ntmps65
    go_wp2
    go_ret2
    exact ⟨.slice none 0 0, rfl, .inl ⟨rfl, rfl⟩, Below.refl _ _⟩
end Go.Proofs.Ytamnacgclhaggab

namespace Go.Proofs.Ytamnacgclhaggab
open Go.ChangeShapes Go.WideShapes Go.ChangeAt Go.RowKit

def rgR (q : Int) (L : List (List Int)) : Int := if Tel q L then ((agreeL q.toNat L).length : Nat) else 0
def fsR (q : Int) (L : List (List Int)) : List Int := if Tel q L then rowK (agreeL q.toNat L) 0 else []
def fsB (q : Int) (L : List (List Int)) : Bool := if Tel q L then decide (0 < (agreeL q.toNat L).length) else false
theorem agreeL_is (n : Nat) (L : List (List Int)) (h3 : 3 ≤ n) (h6 : n ≤ 6) : ∀ l ∈ agreeL n L, IsR n l := fun l hl => ringsL_is n h3 h6 l (List.mem_filter.1 hl).1
theorem fsR_length (q : Int) (L : List (List Int)) : (fsR q L).length ≤ 7 := by
  unfold fsR
  split
  · rename_i ht
    rcases Nat.eq_zero_or_pos (agreeL q.toNat L).length with h0 | h0
    · rw [List.eq_nil_of_length_eq_zero h0]; simp [rowK]
    · have := (agreeL_is q.toNat L (by have := ht.1; omega) (by have := ht.2.1; omega) _ (rowK_mem h0)).1
      have := ht.2.1
      omega
  · simp
theorem tel_nat {q : Int} {L : List (List Int)} (ht : Tel q L) : ∃ k : Nat, q = k ∧ 3 ≤ k ∧ k ≤ 6 := ⟨q.toNat, by have := ht.1; omega, by have := ht.1; omega, by have := ht.2.1; omega⟩

theorem GrowS.row {w : World} {B : Nat} {v : Value} {L : List (List Int)} (h : GrowS w B v L) {k : Nat} (hk : k < L.length) : ∃ g c A d, v = .slice (some ⟨g, 0, none⟩) L.length c ∧ w.cell? ⟨g, k, none⟩ = some (.slice A (rowK L k).length d) ∧ RowV w B (.slice A (rowK L k).length d) (rowK L k) := by
  obtain ⟨xs, h1, h2⟩ := h
  obtain ⟨vk, h3, h4⟩ := h2 k hk
  obtain ⟨A, d, rfl, _⟩ := h4.2
  rcases h1.2 with ⟨_, h0⟩ | ⟨g, cap, cur, rfl, hB, hg, hc, hm, hs, ht⟩
  · omega
  · refine ⟨g, cap, A, d, rfl, ?_, h4⟩
    rw [cell_of_row w g _ cur _ _ hg]
    rw [← ht, List.getElem?_take, if_pos (by omega)] at h3
    simpa using h3

end Go.Proofs.Ytamnacgclhaggab
