/- How many points a set has, by the library's count of one bits; all sets of as many points: the program. -/
import Derived.Test.YtphffefkjbgibabDoorPnM
import Derived.Test.YtphffefkjbgibabDoorWvI
import Derived.Test.YtphffefkjbgibabDoorMA
import Derived.Test.YtphffefkjbgibabDoorFold
import Derived.Laws.Bits64b
namespace Go.Proofs.YtphffefkjbgibabDoor
open Go.ChangeShapes Go.WideShapes Go.ChangeAt Go.RowKit

def oc1 (s : Nat) : Nat := ((s / 2) &&& 6148914691236517205) + (s &&& 6148914691236517205)
def oc2 (s : Nat) : Nat := ((s / 4) &&& 3689348814741910323) + (s &&& 3689348814741910323)
def oc3 (s : Nat) : Nat := (s / 16 + s) &&& 1085102592571150095
theorem oc_nat : ∀ s : Fin 128, oc1 s.val < 128 ∧ oc2 (oc1 s.val) < 128 ∧ oc3 (oc2 (oc1 s.val)) < 8 ∧ oc3 (oc2 (oc1 s.val)) = sizN s.val := by decide +kernel

theorem oc64_core (s x1 x2 x3 : Nat) (w : World)
    (k1 : IntKind.u64.wrap (bits BinOp.and IntKind.u64 ((s : Int) / 2) 6148914691236517205 + bits BinOp.and IntKind.u64 (s : Int) 6148914691236517205) = (x1 : Int))
    (k2 : IntKind.u64.wrap (bits BinOp.and IntKind.u64 ((x1 : Int) / 4) 3689348814741910323 + bits BinOp.and IntKind.u64 (x1 : Int) 3689348814741910323) = (x2 : Int))
    (k3 : bits BinOp.and IntKind.u64 (IntKind.u64.wrap ((x2 : Int) / 16 + (x2 : Int))) 1085102592571150095 = (x3 : Int))
    (k4 : IntKind.u64.wrap ((x3 : Int) + (x3 : Int) / 256) = (x3 : Int))
    (k5 : IntKind.u64.wrap ((x3 : Int) + (x3 : Int) / 65536) = (x3 : Int))
    (k6 : IntKind.u64.wrap ((x3 : Int) + (x3 : Int) / 4294967296) = (x3 : Int))
    (k7 : IntKind.i64.wrap (x3 : Int) = (x3 : Int))
    (k8 : bits BinOp.and IntKind.i64 (x3 : Int) 127 = (x3 : Int)) :
    Calls Tryd.prog 83 #[.int .u64 (s : Int)] w fun e w' => e = .returned (.int .i64 (x3 : Int)) ∧ w = w' := by
  go_enter Tryd.func83, Tryd.ntmps83
  go_wp2
  go_ret
  exact ⟨rfl, rfl⟩

theorem wrap_u64_small (a : Int) (h0 : 0 ≤ a) (h : a < 18446744073709551616) : IntKind.u64.wrap a = a := by rw [IntKind.wrap_u64]; omega
theorem oc64_any (s : Nat) (w : World) (hs : s < 128) :
    Calls Tryd.prog 83 #[.int .u64 (s : Int)] w fun e w' => e = .returned (.int .i64 (sizN s : Int)) ∧ w = w' := by
  obtain ⟨b1, b2, b3, e⟩ := oc_nat ⟨s, hs⟩
  simp only at b1 b2 b3 e
  rw [← e]
  have q1 : bits BinOp.and IntKind.u64 ((s : Int) / 2) 6148914691236517205 + bits BinOp.and IntKind.u64 (s : Int) 6148914691236517205 = ((oc1 s : Nat) : Int) := by
    rw [show ((s : Int) / 2) = ((s / 2 : Nat) : Int) by omega, show (6148914691236517205 : Int) = ((6148914691236517205 : Nat) : Int) from rfl, bits_and_u64_nat _ _ (by omega) (by omega), bits_and_u64_nat _ _ (by omega) (by omega)]
    rfl
  have q2 : bits BinOp.and IntKind.u64 ((oc1 s : Int) / 4) 3689348814741910323 + bits BinOp.and IntKind.u64 (oc1 s : Int) 3689348814741910323 = ((oc2 (oc1 s) : Nat) : Int) := by
    generalize oc1 s = y at *
    rw [show ((y : Int) / 4) = ((y / 4 : Nat) : Int) by omega, show (3689348814741910323 : Int) = ((3689348814741910323 : Nat) : Int) from rfl, bits_and_u64_nat _ _ (by omega) (by omega), bits_and_u64_nat _ _ (by omega) (by omega)]
    rfl
  refine oc64_core s (oc1 s) (oc2 (oc1 s)) (oc3 (oc2 (oc1 s))) w ?_ ?_ ?_ ?_ ?_ ?_ ?_ ?_
  · rw [q1]; exact wrap_u64_small _ (by omega) (by omega)
  · rw [q2]; exact wrap_u64_small _ (by omega) (by omega)
  · generalize oc2 (oc1 s) = y at *
    rw [wrap_u64_small _ (by omega) (by omega), show ((y : Int) / 16 + (y : Int)) = ((y / 16 + y : Nat) : Int) by omega, show (1085102592571150095 : Int) = ((1085102592571150095 : Nat) : Int) from rfl, bits_and_u64_nat _ _ (by omega) (by omega)]
    rfl
  all_goals generalize oc3 (oc2 (oc1 s)) = y at *
  · rw [wrap_u64_small _ (by omega) (by omega)]; omega
  · rw [wrap_u64_small _ (by omega) (by omega)]; omega
  · rw [wrap_u64_small _ (by omega) (by omega)]; omega
  · rw [IntKind.wrap_i64]; omega
  · have := and_small y 127 (by omega) (by omega)
    rw [show ((127 : Nat) : Int) = 127 from rfl] at this
    rw [this, show (127 : Nat) = 2 ^ 7 - 1 from rfl, Nat.and_two_pow_sub_one_eq_mod]
    omega
theorem oc_any (s : Nat) (w : World) (hs : s < 128) :
    Calls Tryd.prog 76 #[.int .u64 (s : Int)] w fun e w' => e = .returned (.int .i64 (sizN s : Int)) ∧ w = w' := by
  have HC := Lib.hid (oc64_any s w hs)
  generalize sizN s = k at *
  go_enter Tryd.func76, Tryd.ntmps76
  go_wp2_with (refine HC.out.mono ?_; rintro e w' ⟨rfl, rfl⟩)
  go_ret
  exact ⟨rfl, rfl⟩
theorem setSize_any (s : Nat) (w : World) (hs : s < 128) :
    Calls Tryd.prog 69 #[.int .i64 (s : Int)] w fun e w' => e = .returned (.int .i64 (sizN s : Int)) ∧ w = w' := by
  have HC := Lib.hid (oc_any s w hs)
  have hwu : IntKind.u64.wrap (s : Int) = (s : Int) := wrap_u64_small _ (by omega) (by omega)
  generalize sizN s = k at *
  go_enter Tryd.func69, Tryd.ntmps69
  go_wp2_with (refine HC.out.mono ?_; rintro e w' ⟨rfl, rfl⟩)
  go_ret
  exact ⟨rfl, rfl⟩

/-- The sets of m points among the first k numbers. -/
def szL (m k : Nat) : List Int := ((List.range k).filter fun s => decide (sizN s = m)).map fun s : Nat => (s : Int)
theorem szL_zero (m : Nat) : szL m 0 = [] := rfl
theorem szL_yes {m k : Nat} (h : sizN k = m) : szL m (k + 1) = szL m k ++ [(k : Int)] := by
  unfold szL
  rw [List.range_succ, List.filter_append, List.map_append]
  simp [h]
theorem szL_no {m k : Nat} (h : sizN k ≠ m) : szL m (k + 1) = szL m k := by
  unfold szL
  rw [List.range_succ, List.filter_append, List.map_append]
  simp [h]
theorem szL_len (m k : Nat) : (szL m k).length ≤ k := by
  unfold szL
  rw [List.length_map]
  have := List.length_filter_le (fun s => decide (sizN s = m)) (List.range k)
  rwa [List.length_range] at this
theorem szL_mem {m k : Nat} {x : Int} (h : x ∈ szL m k) : ∃ s : Nat, x = (s : Int) ∧ s < k ∧ sizN s = m := by
  unfold szL at h
  obtain ⟨s, hs, rfl⟩ := List.mem_map.1 h
  obtain ⟨h1, h2⟩ := List.mem_filter.1 hs
  exact ⟨s, rfl, List.mem_range.1 h1, by simpa using h2⟩

attribute [local go_sem ↓] apI_fold in
set_option maxHeartbeats 1000000 in
theorem setsOf_any (n m : Nat) (w : World) (hn : n ≤ 7) :
    Calls Tryd.prog 49 #[.int .i64 (n : Int), .int .i64 (m : Int)] w fun e w' => ∃ v, e = .returned v ∧ Own w' w.heap.size v (szL m (2 ^ n)) ∧ Below w.heap.size w w' := by
  have HF := Lib.hid (fun W => fullSet_any n W hn)
  have hp : 1 ≤ 2 ^ n ∧ 2 ^ n ≤ 128 := ⟨Nat.one_le_two_pow, Nat.pow_le_pow_right (by omega) hn⟩
  obtain ⟨N, hN⟩ : ∃ N, N = 2 ^ n := ⟨_, rfl⟩
  rw [← hN] at HF hp ⊢
  have ho0 := Lib.hid (own_empty w _ (Nat.le_refl _))
  have HB0 := Lib.hid ((Below.refl w.heap.size w).alloc (Nat.le_refl _) (.cells #[] 3))
  have hN1 : IntKind.i64.wrap (((N - 1 : Nat) : Int) + 1) = (N : Int) := by rw [IntKind.wrap_i64]; omega
  clear hN hn
  go_enter Tryd.func49, Tryd.ntmps49
  go_wp2_with (go_at_call 68; refine (HF.out _).mono ?_; rintro e w' ⟨rfl, rfl⟩)
  clear HF hN1
  go_loopw [5, 11] (fun v i wr => ∃ k : Nat, k ≤ N ∧ i = .int .i64 k ∧ Hid (Own wr w.heap.size v (szL m k)) ∧ Hid (Below w.heap.size w wr)) (fun _ i _ => N - (intOf i).toNat)
  case atStart => exact ⟨0, Nat.zero_le _, rfl, by rw [szL_zero]; exact ho0, HB0⟩
  case round =>
    obtain ⟨k, hk, rfl, hown, hbl⟩ := hrel
    clear ho0 HB0
    by_cases hlt : k < N
    · have HC := Lib.hid (fun W => setSize_any k W (by omega))
      have hlen := szL_len m k
      by_cases hx : sizN k = m
      · have HST := Lib.hid (szL_yes hx)
        rw [hx] at HC
        have hc2 : ((m : Int) == (m : Int)) = true := by simp
        obtain ⟨v', w1, hrun, hown', hgrow⟩ := apI_run hown.out hbl.out.size (by omega) (k : Int)
        rw [← HST.out] at hown'
        have HO := Lib.hid hown'
        have HB1 := Lib.hid (apI_below hown.out hgrow (Nat.le_refl _) hbl.out hbl.out.size)
        clear hx hown hown' hgrow hbl hlen
        go_wp2_with fail
        refine (HC.out _).mono ?_
        rintro e w' ⟨rfl, rfl⟩
        go_wp2
        go_roundw
        case rel => exact ⟨k + 1, by omega, by go_num, HO, HB1⟩
        case measure => simp [intOf]; omega
      · have HST := Lib.hid (szL_no hx)
        have hc2 : ((sizN k : Int) == (m : Int)) = false := by simp; omega
        generalize sizN k = z at *
        clear hx hlen
        go_wp2_with fail
        refine (HC.out _).mono ?_
        rintro e w' ⟨rfl, rfl⟩
        go_wp2
        go_roundw
        case rel => exact ⟨k + 1, by omega, by go_num, by rw [HST.out]; exact hown, hbl⟩
        case measure => simp [intOf]; omega
    · obtain rfl : k = N := by omega
      go_wp2
      go_ret
      exact ⟨_, rfl, hown.out, hbl.out⟩
end Go.Proofs.YtphffefkjbgibabDoor
