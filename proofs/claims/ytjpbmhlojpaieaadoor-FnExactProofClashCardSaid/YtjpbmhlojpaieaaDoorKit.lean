/- The laws' own helpers over slices of ints: the copy, the comparison, the marking and the check of marks, each by its contract. -/
import Derived.Test.YtjpbmhlojpaieaaDoorBase
import Derived.Maps.AppendAt
namespace Go.Proofs.YtjpbmhlojpaieaaDoor
open Go.ChangeShapes Go.WideShapes Go.ChangeAt Go.RowKit

/-- The copy half made: the first k numbers, zeros behind. -/
def half (zs : List Int) (n k : Nat) : List Int := zs.take k ++ List.replicate (n - k) 0
theorem half_length (zs : List Int) (n k : Nat) (hz : zs.length = n) (hk : k ≤ n) : (half zs n k).length = n := by simp [half]; omega
theorem half_zero (zs : List Int) (n : Nat) : half zs n 0 = List.replicate n 0 := by simp [half]
theorem half_full (zs : List Int) (n : Nat) (hz : zs.length = n) : half zs n n = zs := by simp [half, ← hz]
theorem half_step (zs : List Int) (n k : Nat) (hz : zs.length = n) (hk : k < n) : (half zs n k).set k (zs.getD k 0) = half zs n (k + 1) := by
  unfold half
  have hl : (zs.take k).length = k := by simp; omega
  rw [List.set_append_right _ _ (by omega), hl, Nat.sub_self]
  obtain ⟨m, hm⟩ : ∃ m, n - k = m + 1 := ⟨n - k - 1, by omega⟩
  rw [hm, show n - (k + 1) = m by omega, List.replicate_succ, List.set_cons_zero]
  rw [List.take_succ_eq_append_getElem (by omega), List.append_assoc]
  simp [List.getD, show k < zs.length by omega]

set_option maxHeartbeats 400000 in
theorem toIntS_any (A : Option Addr) (n c : Nat) (zs : List Int) (w : World) (h : Rd w w.heap.size A n zs) (hn : n ≤ 1048576) :
    Calls Tryd.prog 7 #[.slice A n c] w fun e w' => e = .returned (.slice (some ⟨w.heap.size, 0, none⟩) n n) ∧
      Own w' w.heap.size (.slice (some ⟨w.heap.size, 0, none⟩) n n) zs ∧ Below w.heap.size w w' := by
  obtain ⟨i0, hi, hz0, hz1, hz2⟩ := info_parts int_info
  have hL := Lib.hid h.len
  go_enter Tryd.func7, Tryd.ntmps7
  go_wp2_with (at_make; refine wpList_make_full _ rfl _ _ 22 rfl w.heap.size 3 i0 (.int .i64 0) 1 Tryd.underlying22 hi hz0 hz1 .i64 .i64 _ _ n rfl rfl rfl rfl (by rw [hz2]; omega) (by unfold maxLen; omega) (Nat.le_refl _) ?_)
  intro w1 hown hgrow
  have hb1 : Below w.heap.size w w1 := (Below.refl _ _).grown hgrow (Nat.le_refl _) (by simp)
  have ho1 : w1.ownsRow w.heap.size 3 1 (.slice (some ⟨w.heap.size, 0, none⟩) n n) n (ints (half zs n 0)) := by
    have e : ints (half zs n 0) = (madeCells #[Value.int IntKind.i64 0] n).toList := by
      rw [half_zero, toList_madeCells_one]
      simp [ints]
    rw [e]
    exact hown
  have hR := h.below hb1
  clear hown hgrow h
  generalize hB : w.heap.size = B at *
  have HB := Lib.hid hB
  clear hB
  go_wp2
  go_loopw [4] (fun i wr => ∃ k : Nat, k ≤ n ∧ i = .int .i64 k ∧ wr.ownsRow B 3 1 (.slice (some ⟨B, 0, none⟩) n n) n (ints (half zs n k)) ∧ Rd wr B A n zs ∧ Below B w wr) (fun i _ => n - (intOf i).toNat)
  case atStart => exact ⟨0, Nat.zero_le _, rfl, ho1, hR, hb1⟩
  case round =>
    obtain ⟨k, hk, rfl, hown, hrd, hbl⟩ := hrel
    by_cases hlt : k < n
    · obtain ⟨b, o, rfl, hbB, hcs⟩ := hrd.at_ (by omega)
      have hc := hcs k hlt
      have hst := hown.stored k (.int .i64 (zs.getD k 0))
      rw [ints_set, half_step zs n k hL.out hlt] at hst
      have hcell : wr.cell? ⟨B, 0 + k, none⟩ = some (.int .i64 ((half zs n k).getD k 0)) := by
        rw [Nat.zero_add, hown.cellAt k (by omega), ints_get _ _ (by rw [half_length zs n k hL.out hk]; exact hlt)]
      have hfr : wr.frozen? ⟨B, 0 + k, none⟩ = false := hown.frozenAt _
      have HS := Lib.hid hst
      have HD := Lib.hid (hrd.below ((Below.refl B wr).grown hst.2 (by have := hbl.size; have := HB.out; omega) (by simp)))
      clear hst hcs hrd hb1 ho1 hR
      rw [Nat.zero_add] at hcell hfr
      generalize (half zs n k).getD k 0 = old at hcell
      generalize hv : zs.getD k 0 = v at hc HS HD
      clear hv
      go_wp2
      go_roundw
      case rel => exact ⟨k + 1, by omega, by go_num, HS.out.1, HD.out, hbl.grown HS.out.2 (by have := hbl.size; have := HB.out; omega) (by simp)⟩
      case measure => simp [intOf]; omega
    · go_wp2
      go_ret
      obtain rfl : k = n := by omega
      rw [HB.out]
      refine ⟨rfl, ?_, hbl⟩
      rw [half_full zs k hL.out] at hown
      unfold Own
      rw [hL.out]
      exact hown

theorem take_eq_step (xs ys : List Int) (k : Nat) (hx : k < xs.length) (hy : k < ys.length) (h : xs.take k = ys.take k) (e : xs.getD k 0 = ys.getD k 0) : xs.take (k + 1) = ys.take (k + 1) := by
  rw [List.take_succ_eq_append_getElem hx, List.take_succ_eq_append_getElem hy, h]
  simp [List.getD, hx, hy] at e
  rw [e]

/-- What eqIntS answers. -/
def same (xs ys : List Int) : Bool := decide (xs = ys)

set_option maxHeartbeats 400000 in
theorem eqIntS_drew (A B : Option Addr) (n m c d : Nat) (xs ys : List Int) (H : Nat) (w : World) (hx : Rd w H A n xs) (hy : Rd w H B m ys) (hn : n ≤ 1048576) (_ : m ≤ 1048576) :
    Calls Tryd.prog 9 #[.slice A n c, .slice B m d] w fun e w' => e = .returned (.bool (same xs ys)) ∧ ∃ m, w' = w.drewN m := by
  have hlx := Lib.hid hx.len
  have hly := Lib.hid hy.len
  by_cases hnm : n = m
  · obtain ⟨r, hr⟩ : ∃ r, r = same xs ys := ⟨_, rfl⟩
    rw [← hr]
    have HR := Lib.hid hr
    clear hr
    subst hnm
    go_enter Tryd.func9, Tryd.ntmps9
    go_wp2
    go_loopw [5] (fun i wr => ∃ k : Nat, k ≤ n ∧ i = .int .i64 k ∧ Hid (xs.take k = ys.take k) ∧ Rd wr H A n xs ∧ Rd wr H B n ys ∧ ∃ q, wr = w.drewN q) (fun i _ => n - (intOf i).toNat)
    case atStart => exact ⟨0, Nat.zero_le _, rfl, by simp [Hid], hx, hy, 0, rfl⟩
    case round =>
      obtain ⟨k, hk, rfl, htk, hrx, hry, q, hbl⟩ := hrel
      have HBL := Lib.hid hbl
      clear hbl
      by_cases hlt : k < n
      · obtain ⟨b, o, rfl, hbB, hcs⟩ := hrx.at_ (by omega)
        obtain ⟨b', o', rfl, hbB', hcs'⟩ := hry.at_ (by omega)
        have hc := hcs k hlt
        have hc' := hcs' k hlt
        have T1 := Lib.hid (take_eq_step xs ys k (by rw [hlx.out]; exact hlt) (by rw [hly.out]; exact hlt) htk.out)
        have T2 : Hid (xs.getD k 0 ≠ ys.getD k 0 → xs ≠ ys) := fun h e => h (by rw [e])
        clear hcs hcs' hx hy
        generalize xs.getD k 0 = x at hc T1 T2
        generalize ys.getD k 0 = y at hc' T1 T2
        by_cases hxy : x = y
        · have hb : (x != y) = false := by simp [hxy]
          have T3 := Lib.hid (T1.out hxy)
          clear hxy T1 T2
          go_wp2
          go_quiet (fail)
          go_wp2
          go_roundw
          case rel => exact ⟨k + 1, by omega, by go_num, T3, hrx.drewN _, hry.drewN _, q + nq, by rw [HBL.out, World.drewN_drewN]⟩
          case measure => simp [intOf]; omega
        · have hb : (x != y) = true := by simp [hxy]
          have T3 := Lib.hid (T2.out hxy)
          clear hxy T1 T2
          go_wp2
          go_quiet (fail)
          go_wp2
          go_ret
          exact ⟨by rw [HR.out]; simp [same, T3.out], q + nq, by rw [HBL.out, World.drewN_drewN]⟩
      · go_wp2
        go_ret
        obtain rfl : k = n := by omega
        have e : xs = ys := by
          have := htk.out
          rwa [List.take_of_length_le (by rw [hlx.out]; omega), List.take_of_length_le (by rw [hly.out]; omega)] at this
        exact ⟨by rw [HR.out]; simp [same, e], q, HBL.out⟩
  · have hr : same xs ys = false := by
      simp only [same, decide_eq_false_iff_not]
      rintro rfl
      exact hnm (hlx.out.symm.trans hly.out)
    rw [hr]
    have hb : ((n : Int) != (m : Int)) = true := by simp; omega
    clear hr hnm
    go_enter Tryd.func9, Tryd.ntmps9
    go_wp2
    go_ret
    exact ⟨rfl, 0, rfl⟩

theorem eqIntS_any (A B : Option Addr) (n m c d : Nat) (xs ys : List Int) (H : Nat) (w : World) (hx : Rd w H A n xs) (hy : Rd w H B m ys) (hn : n ≤ 1048576) (hm : m ≤ 1048576) :
    Calls Tryd.prog 9 #[.slice A n c, .slice B m d] w fun e w' => e = .returned (.bool (same xs ys)) ∧ Below w.heap.size w w' := by
  refine (eqIntS_drew A B n m c d xs ys H w hx hy hn hm).mono ?_
  rintro e w' ⟨rfl, q, rfl⟩
  exact ⟨rfl, below_drewN (Below.refl _ _) _⟩

/-- The numbers from k on. -/
def marks (k : Int) : Nat → List Int
  | 0 => []
  | n + 1 => k :: marks (k + 1) n
theorem marks_length (k : Int) (n : Nat) : (marks k n).length = n := by
  induction n generalizing k with
  | zero => rfl
  | succ n ih => simp [marks, ih]
theorem marks_get (k : Int) (n j : Nat) (h : j < n) : (marks k n).getD j 0 = k + j := by
  induction n generalizing k j with
  | zero => omega
  | succ n ih =>
    cases j with
    | zero => simp [marks]
    | succ j => rw [marks]; simp only [List.getD_cons_succ]; rw [ih (k + 1) j (by omega)]; omega
theorem marks_snoc (k : Int) (n : Nat) : marks k (n + 1) = marks k n ++ [k + n] := by
  induction n generalizing k with
  | zero => simp [marks]
  | succ n ih => rw [marks, ih (k + 1), marks]; simp; omega

def partMarked (zs : List Int) (q : Int) (k : Nat) : List Int := marks q k ++ zs.drop k
theorem partMarked_length (zs : List Int) (q : Int) (k : Nat) (h : k ≤ zs.length) : (partMarked zs q k).length = zs.length := by simp [partMarked, marks_length]; omega
theorem partMarked_step (zs : List Int) (q : Int) (k : Nat) (h : k < zs.length) : (partMarked zs q k).set k (q + k) = partMarked zs q (k + 1) := by
  unfold partMarked
  rw [List.set_append_right _ _ (by rw [marks_length]; omega), marks_length, Nat.sub_self, marks_snoc, List.append_assoc, List.drop_eq_getElem_cons h]
  rfl

end Go.Proofs.YtjpbmhlojpaieaaDoor
