/- WindSums of the model and of the program: the numbers of windings, point by point. -/
import Derived.Test.YtbfdbnminjhocaaWcnt
namespace Go.Proofs.Ytbfdbnminjhocaa
open Go.ChangeShapes Go.WideShapes Go.ChangeAt Go.RowKit

/-- The number at k for one point more. -/
def nextAt (S : List Int) (k : Nat) : Int := (if k < S.length then (k : Int) * S.getD k 0 else 0) + (if 0 < k then ((S.length : Int) + 1 - (k : Int)) * S.getD (k - 1) 0 else 0)
def nextL (S : List Int) : List Int := (List.range (S.length + 1)).map (nextAt S)
theorem nextL_length (S : List Int) : (nextL S).length = S.length + 1 := by simp [nextL]
theorem nextL_get (S : List Int) (k : Nat) (h : k < S.length + 1) : (nextL S).getD k 0 = nextAt S k := by simp [nextL, List.getD, h]
theorem nextL_snoc (S : List Int) (k : Nat) (h : k < S.length + 1) : (nextL S).take k ++ [nextAt S k] = (nextL S).take (k + 1) := by
  rw [List.take_succ_eq_append_getElem (by rw [nextL_length]; exact h)]
  simp [nextL]
/-- The numbers for k + 2 points. -/
def sumsN : Nat → List Int
  | 0 => [0, 1]
  | k + 1 => nextL (sumsN k)
theorem sumsN_length : ∀ k, (sumsN k).length = k + 2
  | 0 => rfl
  | k + 1 => by rw [sumsN, nextL_length, sumsN_length k]
theorem sumsN_bd (k : Nat) (h : k ≤ 5) : ∀ x ∈ sumsN k, 0 ≤ x ∧ x ≤ 1000 := by
  obtain rfl | rfl | rfl | rfl | rfl | rfl : k = 0 ∨ k = 1 ∨ k = 2 ∨ k = 3 ∨ k = 4 ∨ k = 5 := by omega
  all_goals decide
/-- Half made by the program: k numbers have been taken. -/
def partS (S : List Int) (k : Nat) : List Int := (List.range (S.length + 1)).map fun j : Nat => if j < k then nextAt S j else if j = k ∧ 0 < k then ((S.length : Int) + 1 - (k : Int)) * S.getD (k - 1) 0 else 0
theorem partS_length (S : List Int) (k : Nat) : (partS S k).length = S.length + 1 := by simp [partS]
theorem partS_get (S : List Int) (k j : Nat) (h : j < S.length + 1) : (partS S k).getD j 0 = if j < k then nextAt S j else if j = k ∧ 0 < k then ((S.length : Int) + 1 - (k : Int)) * S.getD (k - 1) 0 else 0 := by simp [partS, List.getD, h]
theorem partS_zero (S : List Int) : partS S 0 = List.replicate (S.length + 1) 0 := by
  apply List.ext_getElem (by simp [partS])
  intro i h1 h2
  simp [partS]
theorem partS_full (S : List Int) (h1 : 1 ≤ S.length) : partS S S.length = nextL S := by
  apply List.ext_getElem (by simp [partS, nextL])
  intro i h2 h3
  have hi : i < S.length + 1 := by simpa [partS] using h2
  simp only [partS, nextL, List.getElem_map, List.getElem_range]
  split
  · rfl
  · rename_i hge
    obtain rfl : i = S.length := by omega
    rw [if_pos ⟨rfl, by omega⟩, nextAt, if_neg (by omega), if_pos (by omega)]
    omega
theorem partS_here (S : List Int) (k : Nat) (h : k < S.length) : (partS S k).getD k 0 + (k : Int) * S.getD k 0 = nextAt S k := by
  rw [partS_get S k k (by omega), if_neg (by omega), nextAt, if_pos h]
  by_cases h0 : 0 < k
  · rw [if_pos ⟨rfl, h0⟩, if_pos h0]; omega
  · rw [if_neg (by omega), if_neg h0]; omega
theorem partS_step (S : List Int) (k : Nat) (_ : k < S.length) : ((partS S k).set k (nextAt S k)).set (k + 1) (((S.length : Int) + 1 - (k : Int) - 1) * S.getD k 0) = partS S (k + 1) := by
  apply List.ext_getElem (by simp [partS])
  intro i h1 h2
  rw [List.getElem_set, List.getElem_set]
  simp only [partS, List.getElem_map, List.getElem_range]
  by_cases e1 : k + 1 = i
  · subst e1
    rw [if_pos rfl, if_neg (by omega), if_pos ⟨rfl, by omega⟩]
    congr 1
    · push_cast; omega
  · rw [if_neg e1]
    by_cases e2 : k = i
    · subst e2
      rw [if_pos rfl, if_pos (by omega)]
    · rw [if_neg e2]
      by_cases hlt : i < k
      · rw [if_pos hlt, if_pos (by omega)]
      · rw [if_neg hlt, if_neg (by omega), if_neg (by omega), if_neg (by omega)]
theorem partS_next (S : List Int) (k : Nat) (h : k < S.length) : ((partS S k).set k (nextAt S k)).getD (k + 1) 0 = 0 := by
  have e : ((partS S k).set k (nextAt S k)).getD (k + 1) 0 = (partS S k).getD (k + 1) 0 := by
    simp [List.getD]
  rw [e, partS_get S k (k + 1) (by omega), if_neg (by omega), if_neg (by omega)]
theorem mul_bd {k x : Int} (hk0 : 0 ≤ k) (hk : k ≤ 10) (hx0 : 0 ≤ x) (hx : x ≤ 1000) : 0 ≤ k * x ∧ k * x ≤ 10000 := by
  constructor
  · exact Int.mul_nonneg hk0 hx0
  · calc k * x ≤ 10 * x := Int.mul_le_mul_of_nonneg_right hk hx0
      _ ≤ 10 * 1000 := Int.mul_le_mul_of_nonneg_left hx (by omega)

set_option maxRecDepth 10000 in
set_option maxHeartbeats 2000000 in
theorem nextI_any (A : Option Addr) (n c H : Nat) (S : List Int) (w : World) (h : Rd w H A n S) (hH : H ≤ w.heap.size) (h1 : 1 ≤ n) (h7 : n ≤ 7) (hS : ∀ x ∈ S, 0 ≤ x ∧ x ≤ 1000) :
    Calls Try.prog 72 #[.slice A n c] w fun e w' => ∃ v, e = .returned v ∧ Own w' w.heap.size v (nextL S) ∧ Below w.heap.size w w' := by
  obtain ⟨i0, hi, hz0, hz1, hz2⟩ := info_parts int_info
  have HL := Lib.hid h.len
  have HR := Lib.hid (fun V (hV : Below w.heap.size w V) => h.below (hV.mono hH))
  have HSB : Hid (∀ k, k < n → 0 ≤ S.getD k 0 ∧ S.getD k 0 ≤ 1000) := fun k hk => hS _ (getD_mem S k (by rw [HL.out]; exact hk))
  have hw0 : IntKind.i64.wrap ((n : Int) + 1) = ((n + 1 : Nat) : Int) := by rw [IntWalk.i64_in _ (by omega)]; omega
  clear h hS
  go_enter Try.func72, Try.ntmps72
  go_wp2_with (at_make; refine wpList_make_full _ rfl _ _ 23 rfl w.heap.size 3 i0 (.int .i64 0) 1 Try.underlying23 hi hz0 hz1 .i64 .i64 _ _ (n + 1) rfl rfl rfl rfl (by rw [hz2]; omega) (by unfold maxLen; omega) (Nat.le_refl _) ?_)
  intro w1 hown hgrow
  have HB1 : Hid (Below w.heap.size w w1) := (Below.refl _ _).grown hgrow (Nat.le_refl _) (by simp)
  have HO1 : Hid (w1.ownsRow w.heap.size 3 1 (.slice (some ⟨w.heap.size, 0, none⟩) (n + 1) (n + 1)) (n + 1) (ints (partS S 0))) := by
    rw [Hid, partS_zero, HL.out]
    have e : ints (List.replicate (n + 1) 0) = (madeCells #[Value.int IntKind.i64 0] (n + 1)).toList := by
      rw [toList_madeCells_one]
      simp [ints]
    rw [e]
    exact hown
  clear hown hgrow
  generalize hB : w.heap.size = B at *
  have HB := Lib.hid hB
  clear hB
  go_wp2
  go_loopw [14] (fun i wr => ∃ k : Nat, k ≤ n ∧ i = .int .i64 k ∧ Hid (wr.ownsRow B 3 1 (.slice (some ⟨B, 0, none⟩) (n + 1) (n + 1)) (n + 1) (ints (partS S k))) ∧ Hid (Below B w wr)) (fun i _ => n - (intOf i).toNat)
  case atStart => exact ⟨0, Nat.zero_le _, rfl, HO1, HB1⟩
  case round =>
    obtain ⟨k, hk, rfl, hown, hbl⟩ := hrel
    clear HO1 HB1
    by_cases hlt : k < n
    · have hsB : B < wr.heap.size := (hown.out.lt _ rfl).2
      obtain ⟨b, o, rfl, hbH, hcs⟩ := (HR.out wr hbl.out).at_ (by omega)
      have hc := hcs k hlt
      have hx := HSB.out k hlt
      have hcb : b < B := by have := hbH; omega
      have P1 := Lib.hid (partS_here S k (by rw [HL.out]; exact hlt))
      have P2 := Lib.hid (partS_step S k (by rw [HL.out]; exact hlt))
      have P3 := Lib.hid (partS_next S k (by rw [HL.out]; exact hlt))
      rw [HL.out] at P2
      have hm1 := mul_bd (k := (k : Int)) (by omega) (by omega) hx.1 hx.2
      have hm2 := mul_bd (k := (n : Int) + 1 - (k : Int) - 1) (by omega) (by omega) hx.1 hx.2
      have hpk : 0 ≤ (partS S k).getD k 0 ∧ (partS S k).getD k 0 ≤ 10000 := by
        rw [partS_get S k k (by rw [HL.out]; omega), if_neg (by omega)]
        by_cases h0 : 0 < k
        · rw [if_pos ⟨rfl, h0⟩, HL.out]
          have := HSB.out (k - 1) (by omega)
          exact mul_bd (by omega) (by omega) this.1 this.2
        · rw [if_neg (by omega)]; omega
      have hcell : wr.cell? ⟨B, k, none⟩ = some (.int .i64 ((partS S k).getD k 0)) := by
        rw [hown.out.cellAt k (by omega), ints_get _ _ (by rw [partS_length, HL.out]; omega)]
      have hfr : wr.frozen? ⟨B, k, none⟩ = false := hown.out.frozenAt _
      have hst := hown.out.stored k (.int .i64 (nextAt S k))
      rw [ints_set] at hst
      obtain ⟨hs1, hs2⟩ := hst
      have hcell2 : (wr.setCell ⟨B, k, none⟩ (.int .i64 (nextAt S k))).cell? ⟨B, k + 1, none⟩ = some (.int .i64 0) := by
        rw [hs1.cellAt (k + 1) (by omega), ints_get _ _ (by rw [List.length_set, partS_length, HL.out]; omega), P3.out]
      have hfr2 : (wr.setCell ⟨B, k, none⟩ (.int .i64 (nextAt S k))).frozen? ⟨B, k + 1, none⟩ = false := hs1.frozenAt _
      have hst2 := hs1.stored (k + 1) (.int .i64 (((n : Int) + 1 - (k : Int) - 1) * S.getD k 0))
      rw [ints_set, P2.out] at hst2
      have HS1 := Lib.hid hs2
      have HS2 := Lib.hid hst2
      have hw1 : IntKind.i64.wrap ((partS S k).getD k 0 + (k : Int) * S.getD k 0) = nextAt S k := by rw [IntWalk.i64_in _ (by omega)]; exact P1.out
      have hw2 : IntKind.i64.wrap ((k : Int) * S.getD k 0) = (k : Int) * S.getD k 0 := IntWalk.i64_in _ (by omega)
      have hw3 : IntKind.i64.wrap (((n : Int) + 1 - (k : Int) - 1) * S.getD k 0) = ((n : Int) + 1 - (k : Int) - 1) * S.getD k 0 := IntWalk.i64_in _ (by omega)
      clear hs1 hs2 hst2 hcs P1 P2 P3 hm1 hm2 hpk hown
      generalize nextAt S k = y at *
      generalize (partS S k).getD k 0 = p at *
      generalize S.getD k 0 = x at *
      go_wp2
      go_roundw
      case rel => exact ⟨k + 1, by omega, by go_num, HS2.out.1, (hbl.out.grown HS1.out (by omega) (by simp)).grown HS2.out.2 (by simp; omega) (by simp)⟩
      case measure => simp [intOf]; omega
    · obtain rfl : k = n := by omega
      have hh : Own wr B (.slice (some ⟨B, 0, none⟩) (k + 1) (k + 1)) (nextL S) := by
        have := hown.out
        rw [← HL.out, partS_full S (by rw [HL.out]; exact h1), HL.out] at this
        rw [Own, nextL_length, HL.out]
        exact this
      have HH := Lib.hid hh
      clear hh hown
      go_wp2
      go_ret
      exact ⟨_, rfl, by rw [HB.out]; exact HH.out, by rw [HB.out]; exact hbl.out⟩

def wsR (n : Int) : List Int := if wcB n then sumsN (n.toNat - 2) else []
theorem wsR_length (n : Int) : (wsR n).length ≤ 7 := by
  unfold wsR
  split
  · rename_i h
    simp [wcB] at h
    rw [sumsN_length]
    omega
  · simp
def lenV : Value → Nat
  | .slice _ n _ => n
  | _ => 0

set_option maxRecDepth 10000 in
set_option maxHeartbeats 2000000 in
theorem wsI_any (n : Int) (w : World) :
    Calls Try.prog 26 #[.int .i64 n] w fun e w' => ∃ v, e = .returned (.tuple #[v, .bool (wcB n)]) ∧ Own w' w.heap.size v (wsR n) ∧ Below w.heap.size w w' := by
  have HI := Lib.hid (sizeIn_any n w)
  have e0 : (decide (3 ≤ n) && decide (n ≤ 7)) = wcB n := rfl
  rw [e0] at HI
  clear e0
  by_cases h : wcB n = true
  rotate_left
  · have h' : wcB n = false := by simpa using h
    rw [wsR, if_neg h, h']
    rw [h'] at HI
    clear h h'
    go_enter Try.func26, Try.ntmps26
    go_wp2_with fail
    refine HI.out.mono ?_
    rintro e w' ⟨rfl, rfl⟩
    go_wp2
    go_ret2
    exact ⟨.slice none 0 0, rfl, own_nil _ _, Below.refl _ _⟩
  have h' := h
  simp [wcB] at h'
  rw [wsR, if_pos h, h]
  rw [h] at HI
  obtain ⟨m, rfl⟩ : ∃ m : Nat, n = m := ⟨n.toNat, by omega⟩
  rw [Int.toNat_natCast]
  have h3 : 3 ≤ m := by omega
  have h7 : m ≤ 7 := by omega
  clear h h'
  have HO0 : Hid (Own (w.alloc (.cells #[.int .i64 0, .int .i64 1] 3)) w.heap.size (.slice (some ⟨w.heap.size, 0, none⟩) 2 2) (sumsN 0)) := World.ownsRow_lit w #[.int .i64 0, .int .i64 1] 2 (Nat.le_refl _) (by unfold maxLen; omega) rfl
  have HB0 := Lib.hid ((Below.refl w.heap.size w).alloc (Nat.le_refl _) (.cells #[.int .i64 0, .int .i64 1] 3))
  go_enter Try.func26, Try.ntmps26
  go_wp2_with fail
  refine HI.out.mono ?_
  rintro e w' ⟨rfl, rfl⟩
  go_wp2
  generalize w.alloc (.cells #[.int .i64 0, .int .i64 1] 3) = W0 at *
  generalize hB : w.heap.size = B at *
  have HB := Lib.hid hB
  clear hB
  go_loopw [4] (fun v wr => ∃ (q : Nat) (A : Option Addr) (c : Nat), q + 2 ≤ m ∧ v = .slice A (q + 2) c ∧ Hid (Own wr B v (sumsN q)) ∧ Hid (Below B w wr)) (fun v _ => m - lenV v)
  case atStart => exact ⟨0, _, _, by omega, rfl, HO0, HB0⟩
  case round =>
    obtain ⟨q, A, c, hq, rfl, hown, hbl⟩ := hrel
    clear HO0 HB0
    have hsB : B ≤ wr.heap.size := by rw [← HB.out]; exact hbl.out.size
    by_cases hlt : q + 2 < m
    · have hrd := (show OwnG wr B (.slice A (q + 2) c) (sumsN q) from hown.out.gen).rd.2
      have HN := Lib.hid (nextI_any A (q + 2) c wr.heap.size (sumsN q) wr hrd (Nat.le_refl _) (by omega) (by omega) (sumsN_bd q (by omega)))
      clear hrd
      go_wp2_with fail
      refine HN.out.mono ?_
      rintro e w2 ⟨v2, rfl, ho2, hb2⟩
      obtain ⟨A2, c2, e⟩ := ho2.slice
      rw [nextL_length, sumsN_length] at e
      have HO2 : Hid (Own w2 B v2 (sumsN (q + 1))) := own_less ho2 hsB
      have HB2 := Lib.hid (hbl.out.trans (hb2.mono hsB))
      clear ho2 hb2 HN hown hbl
      subst e
      go_wp2
      go_roundw
      case rel => exact ⟨q + 1, A2, c2, by omega, rfl, HO2, HB2⟩
      case measure => simp [lenV]; omega
    · obtain rfl : m = q + 2 := by omega
      go_wp2
      go_ret2
      exact ⟨_, rfl, by rw [HB.out]; exact hown.out, by rw [HB.out]; exact hbl.out⟩

attribute [local go_sem ↓] apI_fold in
set_option maxRecDepth 10000 in
set_option maxHeartbeats 2000000 in
theorem wsS_any (n : Int) (w : World) :
    Calls Try.prog 30 #[.int .i64 n] w fun e w' => ∃ v, e = .returned (.tuple #[v, .bool (wcB n)]) ∧ Own w' w.heap.size v (wsR n) ∧ Below w.heap.size w w' := by
  have HI := Lib.hid (in_any n 3 7 w)
  have e0 : (decide (3 ≤ n) && decide (n ≤ 7)) = wcB n := rfl
  rw [e0] at HI
  clear e0
  by_cases h : wcB n = true
  rotate_left
  · have h' : wcB n = false := by simpa using h
    rw [wsR, if_neg h, h']
    rw [h'] at HI
    clear h h'
    go_enter Try.func30, Try.ntmps30
    go_wp2_with fail
    refine HI.out.mono ?_
    rintro e w' ⟨rfl, rfl⟩
    go_wp2_with fail
    refine (none_any w).mono ?_
    rintro e w2 ⟨v, rfl, ho, hb⟩
    have HO := Lib.hid ho
    have HB := Lib.hid hb
    clear ho hb
    go_wp2
    go_ret2
    exact ⟨v, rfl, HO.out, HB.out⟩
  have h' := h
  simp [wcB] at h'
  rw [wsR, if_pos h, h]
  rw [h] at HI
  obtain ⟨m, rfl⟩ : ∃ m : Nat, n = m := ⟨n.toNat, by omega⟩
  rw [Int.toNat_natCast]
  have h3 : 3 ≤ m := by omega
  have h7 : m ≤ 7 := by omega
  clear h h'
  have HO0 : Hid (Own (w.alloc (.cells #[.int .i64 0, .int .i64 1] 3)) w.heap.size (.slice (some ⟨w.heap.size, 0, none⟩) 2 2) (sumsN (2 - 2))) := World.ownsRow_lit w #[.int .i64 0, .int .i64 1] 2 (Nat.le_refl _) (by unfold maxLen; omega) rfl
  have HB0 := Lib.hid ((Below.refl w.heap.size w).alloc (Nat.le_refl _) (.cells #[.int .i64 0, .int .i64 1] 3))
  go_enter Try.func30, Try.ntmps30
  go_wp2_with fail
  refine HI.out.mono ?_
  rintro e w' ⟨rfl, rfl⟩
  go_wp2
  generalize w.alloc (.cells #[.int .i64 0, .int .i64 1] 3) = W0 at *
  generalize hB : w.heap.size = B at *
  have HB := Lib.hid hB
  clear hB
  go_loopw [4, 5] (fun v i wr => ∃ (L M : Nat) (A : Option Addr) (c : Nat), M = L + 1 ∧ 2 ≤ L ∧ L ≤ m ∧ v = .slice A L c ∧ i = .int .i64 (M : Int) ∧ Hid (Own wr B v (sumsN (L - 2))) ∧ Hid (Below B w wr)) (fun v _ _ => m - lenV v)
  case atStart => exact ⟨2, 3, _, _, rfl, by omega, by omega, rfl, rfl, HO0, HB0⟩
  case round =>
    obtain ⟨L, M, A, c, hM, hL2, hLm, rfl, rfl, hown, hbl⟩ := hrel
    clear HO0 HB0
    have HM := Lib.hid hM
    have hsB : B ≤ wr.heap.size := by rw [← HB.out]; exact hbl.out.size
    by_cases hlt : M ≤ m
    · have hSL : (sumsN (L - 2)).length = L := by rw [sumsN_length]; omega
      have HSB : Hid (∀ k, k < L → 0 ≤ (sumsN (L - 2)).getD k 0 ∧ (sumsN (L - 2)).getD k 0 ≤ 1000) := fun k hk => sumsN_bd (L - 2) (by omega) _ (getD_mem _ k (by rw [hSL]; exact hk))
      have HNX : Hid (nextL (sumsN (L - 2)) = sumsN (L + 1 - 2)) := by rw [Hid, show L + 1 - 2 = (L - 2) + 1 by omega]; rfl
      obtain ⟨g, cap, e, hgB, hgs, hnc, hcm, hcs⟩ := ownHead hown.out (by omega)
      rw [hSL] at e hnc hcs
      obtain ⟨W1, hW1⟩ : ∃ W, W = wr.alloc (.cells #[] 3) := ⟨_, rfl⟩
      have hb1 : Below wr.heap.size wr W1 := by rw [hW1]; exact (Below.refl _ _).alloc (Nat.le_refl _) _
      have HCS : Hid (∀ k, k < L → W1.cell? ⟨g, k, none⟩ = some (.int .i64 ((sumsN (L - 2)).getD k 0))) := fun k hk => (hb1.cell (p := ⟨g, k, none⟩) hgs).trans (hcs k hk)
      have hs1 : W1.heap.size = wr.heap.size + 1 := by rw [hW1]; simp
      have HBW := Lib.hid (hbl.out.trans (hb1.mono hsB))
      have HSN : Hid (∀ k, k < M → (nextL (sumsN (L - 2))).take k ++ [nextAt (sumsN (L - 2)) k] = (nextL (sumsN (L - 2))).take (k + 1)) := fun k hk => nextL_snoc _ k (by omega)
      have HNL : Hid ((nextL (sumsN (L - 2))).length = M) := by rw [Hid, nextL_length]; omega
      have HAT : Hid (∀ k, nextAt (sumsN (L - 2)) k = (if k < L then (k : Int) * (sumsN (L - 2)).getD k 0 else 0) + (if 0 < k then ((M : Int) - (k : Int)) * (sumsN (L - 2)).getD (k - 1) 0 else 0)) := fun k => by rw [nextAt, hSL, hM]; push_cast; rfl
      injection e with e1 _ e2
      subst e1
      have hML1 : L < M := by omega
      have hML2 : M ≤ L + 1 := by omega
      clear hown hbl hcs hb1 e2 hSL hM
      generalize sumsN (L - 2) = S at *
      generalize nextL S = C at *
      go_wp2_with fail
      rw [← hW1]
      clear hW1
      generalize hD : W1.heap.size = D at *
      have HD := Lib.hid hD
      have HR0 : Hid (RowE W1 D wr.heap.size (.slice (some ⟨wr.heap.size, 0, none⟩) 0 0) (C.take 0)) := .inl ⟨by simp, rfl⟩
      clear hD
      generalize wr.heap.size = e0 at *
      go_loopw [6, 7] (fun v i wq => ∃ k : Nat, k ≤ M ∧ i = .int .i64 (k : Int) ∧ Hid (RowE wq D e0 v (C.take k)) ∧ Hid (Below D W1 wq)) (fun _ i _ => M - (intOf i).toNat)
      case atStart => exact ⟨0, Nat.zero_le _, rfl, HR0, by rw [← HD.out]; exact Below.refl _ _⟩
      case round =>
        obtain ⟨k, hk, rfl, hrow, hbl⟩ := hrel
        clear HR0
        have hwD : D ≤ wr.heap.size := by rw [← HD.out]; exact hbl.out.size
        by_cases hkM : k < M
        · obtain ⟨v', w2, hrun, ho2, hb2⟩ := rowE_run hrow.out hwD (by rw [List.length_take]; omega) (nextAt S k)
          rw [HSN.out k hkM] at ho2
          have HO2 := Lib.hid ho2
          have HB2 := Lib.hid (hbl.out.trans hb2)
          have hat := HAT.out k
          clear ho2 hb2
          by_cases hkL : k < L
          · have hc : wr.cell? ⟨g, k, none⟩ = some (.int .i64 (S.getD k 0)) := (hbl.out.cell (p := ⟨g, k, none⟩) (show g < D by omega)).trans (HCS.out k hkL)
            have hx := HSB.out k hkL
            have hm1 := mul_bd (k := (k : Int)) (by omega) (by omega) hx.1 hx.2
            have hw1 : IntKind.i64.wrap ((k : Int) * S.getD k 0) = (k : Int) * S.getD k 0 := IntWalk.i64_in _ (by omega)
            rw [if_pos hkL] at hat
            by_cases h0 : 0 < k
            · obtain ⟨j, hj⟩ : ∃ j, k = j + 1 := ⟨k - 1, by omega⟩
              have hcj : wr.cell? ⟨g, j, none⟩ = some (.int .i64 (S.getD j 0)) := (hbl.out.cell (p := ⟨g, j, none⟩) (show g < D by omega)).trans (HCS.out j (by omega))
              have hy := HSB.out j (by omega)
              have hm2 := mul_bd (k := (M : Int) - (k : Int)) (by omega) (by omega) hy.1 hy.2
              have hw2 : IntKind.i64.wrap (((M : Int) - (k : Int)) * S.getD j 0) = ((M : Int) - (k : Int)) * S.getD j 0 := IntWalk.i64_in _ (by omega)
              have hw3 : IntKind.i64.wrap ((M : Int) - (k : Int)) = (M : Int) - (k : Int) := IntWalk.i64_in _ (by omega)
              have hw4 : IntKind.i64.wrap ((k : Int) - 1) = (j : Int) := by rw [IntWalk.i64_in _ (by omega)]; omega
              rw [if_pos h0, show k - 1 = j by omega] at hat
              have hw5 : IntKind.i64.wrap ((k : Int) * S.getD k 0 + ((M : Int) - (k : Int)) * S.getD j 0) = nextAt S k := by rw [IntWalk.i64_in _ (by omega)]; exact hat.symm
              have hjL : j < L := by omega
              have HJ := Lib.hid hj
              clear hat hj hm1 hm2
              generalize nextAt S k = z at *
              generalize S.getD k 0 = x at *
              generalize S.getD j 0 = y at *
              go_wp2
              go_roundw
              case rel => exact ⟨k + 1, by omega, by go_num, Lib.hid (.inr HO2.out), HB2⟩
              case measure => simp [intOf]; omega
            · have hk0 : k = 0 := by omega
              subst hk0
              rw [if_neg h0] at hat
              have hw5 : Hid (nextAt S 0 = 0) := by rw [Hid, hat]; simp
              rw [hw5.out] at hrun
              clear hat hm1 hw5
              generalize S.getD 0 0 = x at *
              go_wp2
              go_roundw
              case rel => exact ⟨1, by omega, by first | rfl | go_num, Lib.hid (.inr HO2.out), HB2⟩
              case measure => simp [intOf]; omega
          · have hkL' : k = L := by omega
            obtain ⟨j, hj⟩ : ∃ j, k = j + 1 := ⟨k - 1, by omega⟩
            have hcj : wr.cell? ⟨g, j, none⟩ = some (.int .i64 (S.getD j 0)) := (hbl.out.cell (p := ⟨g, j, none⟩) (show g < D by omega)).trans (HCS.out j (by omega))
            have hy := HSB.out j (by omega)
            have hm2 := mul_bd (k := (M : Int) - (k : Int)) (by omega) (by omega) hy.1 hy.2
            have hw2 : IntKind.i64.wrap (((M : Int) - (k : Int)) * S.getD j 0) = ((M : Int) - (k : Int)) * S.getD j 0 := IntWalk.i64_in _ (by omega)
            have hw3 : IntKind.i64.wrap ((M : Int) - (k : Int)) = (M : Int) - (k : Int) := IntWalk.i64_in _ (by omega)
            have hw4 : IntKind.i64.wrap ((k : Int) - 1) = (j : Int) := by rw [IntWalk.i64_in _ (by omega)]; omega
            rw [if_neg hkL, if_pos (show 0 < k by omega), show k - 1 = j by omega, Int.zero_add] at hat
            have hjL : j < L := by omega
            have hkL2 : L ≤ k := by omega
            have h0 : 0 < k := by omega
            have HJ := Lib.hid hj
            have HKL := Lib.hid hkL'
            rw [hat] at hrun
            clear hat hj hm2 hkL'
            generalize S.getD j 0 = y at *
            go_wp2
            go_roundw
            case rel => exact ⟨k + 1, by omega, by go_num, Lib.hid (.inr HO2.out), HB2⟩
            case measure => simp [intOf]; omega
        · have hkM' : k = M := by omega
          have HCM : Hid (Own wr D u6 C) := by
            rcases hrow.out with ⟨e, _⟩ | e
            · exfalso
              have h1 : (C.take k).length = M := by rw [List.length_take, HNL.out]; omega
              rw [e] at h1
              simp at h1
              omega
            · rw [List.take_of_length_le (by rw [HNL.out]; omega)] at e
              exact e
          have hsl := HCM.out.slice
          obtain ⟨A', c', e⟩ := hsl
          rw [HNL.out] at e
          have HCM2 : Hid (Own wr B u6 (sumsN (M - 2))) := by
            rw [show M - 2 = L + 1 - 2 by omega, ← HNX.out]
            exact own_less HCM.out (by omega)
          have HBF := Lib.hid (HBW.out.trans (hbl.out.mono (by omega)))
          clear HCM hrow hbl hkM'
          subst e
          go_wp2
          go_roundw
          case rel => exact ⟨M, M + 1, A', c', rfl, by omega, by omega, rfl, by go_num, HCM2, HBF⟩
          case measure => simp [lenV]; omega
    · have hmL : m = L := by omega
      subst hmL
      go_wp2
      go_ret2
      exact ⟨_, rfl, by rw [HB.out]; exact hown.out, by rw [HB.out]; exact hbl.out⟩
end Go.Proofs.Ytbfdbnminjhocaa
