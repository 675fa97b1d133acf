/- The number of a ring: the model's loops and the program's loops count alike. -/
import Derived.Test.YtgojojoanhilnabDoorMA
import Derived.Test.YtgojojoanhilnabDoorNext
namespace Go.Proofs.YtgojojoanhilnabDoor
open Go.ChangeShapes Go.WideShapes Go.ChangeAt Go.RowKit

/-- How many points between the places i and k are less than the one at i. -/
def cnt (l : List Int) (i : Nat) : Nat → Nat
  | 0 => 0
  | k + 1 => cnt l i k + if i < k ∧ l.getD k 0 < l.getD i 0 then 1 else 0
theorem cnt_le (l : List Int) (i k : Nat) : cnt l i k ≤ k := by
  induction k with
  | zero => simp [cnt]
  | succ k ih => rw [cnt]; split <;> omega
theorem cnt_start (l : List Int) (i : Nat) : ∀ k, k ≤ i + 1 → cnt l i k = 0
  | 0, _ => rfl
  | k + 1, h => by rw [cnt, cnt_start l i k (by omega), if_neg (by omega)]
theorem cnt_zero (l : List Int) (h0 : l.getD 0 0 = 0) (h : ∀ x ∈ l, 0 ≤ x) : ∀ k, k ≤ l.length → cnt l 0 k = 0
  | 0, _ => rfl
  | k + 1, hk => by
    rw [cnt, cnt_zero l h0 h k (by omega), if_neg]
    rintro ⟨_, hlt⟩
    have := h _ (getD_mem l k (by omega))
    omega
def numP (l : List Int) : Nat → Int
  | 0 => 0
  | m + 1 => numP l m + (cnt l m l.length : Int) * facN (l.length - 1 - m)
theorem facN_bd (m : Nat) : 1 ≤ facN m ∧ facN m ≤ 5040 := by
  match m with
  | 0 | 1 | 2 | 3 | 4 | 5 | 6 => simp [facN]
  | _ + 7 => simp [facN]
theorem prod_bd (c : Nat) (f : Int) (hc : c ≤ 7) (hf : 1 ≤ f ∧ f ≤ 5040) : 0 ≤ (c : Int) * f ∧ (c : Int) * f ≤ 35280 := by
  obtain rfl | rfl | rfl | rfl | rfl | rfl | rfl | rfl : c = 0 ∨ c = 1 ∨ c = 2 ∨ c = 3 ∨ c = 4 ∨ c = 5 ∨ c = 6 ∨ c = 7 := by omega
  all_goals omega
theorem numP_bd (l : List Int) (hl : l.length ≤ 7) : ∀ m, m ≤ 7 → 0 ≤ numP l m ∧ numP l m ≤ 35280 * m
  | 0, _ => by simp [numP]
  | m + 1, h => by
    have ih := numP_bd l hl m (by omega)
    have hb := prod_bd (cnt l m l.length) (facN (l.length - 1 - m)) (by have := cnt_le l m l.length; omega) (facN_bd _)
    rw [numP]
    push_cast
    omega

theorem facS_nat (m : Nat) (k : Int) (w : World) (hk : k = m) (hm : m ≤ 6) :
    Calls Tryd.prog 50 #[.int .i64 k] w fun e w' => e = .returned (.int .i64 (facN m)) ∧ w = w' := by
  subst hk
  have := facS_any (m : Int) w (by omega) (by omega)
  rwa [Int.toNat_natCast] at this
theorem facI_nat (m : Nat) (k : Int) (w : World) (hk : k = m) (hm : m ≤ 6) :
    Calls Tryd.prog 33 #[.int .i64 k] w fun e w' => e = .returned (.int .i64 (facN m)) ∧ w = w' := by
  subst hk
  have := facI_any (m : Int) w (by omega) (by omega)
  rwa [Int.toNat_natCast] at this

/-- A cut of an array between two places. -/
theorem slice_ring2 (W : World) (b m n : Nat) (hm : m ≤ n) (hn : n ≤ 7) :
    ∃ ad : Addr, (m < 7 → ad = ⟨b, m, none⟩) ∧
    (Instr.sliceAt 49 (.pointer (some ⟨b, 0, none⟩)) (some (.int .i64 (m : Int))) (some (.int .i64 (n : Int))) none).run Tryd.prog W = .ok (.slice (some ad) (n - m) (7 - m)) W := by
  obtain ⟨i, hi, _, hs, _⟩ := info_parts int_info
  have hal : Tryd.prog.arrayLen 49 = 7 := by kernel_rfl
  have hel : Tryd.prog.elem 49 = 3 := by kernel_rfl
  have h := run_sliceAt_array_lh (P := Tryd.prog) W 49 ⟨b, 0, none⟩ (by rw [hal, hel]; exact Tryd.underlying49) .i64 .i64 (m : Int) (n : Int) (by omega) (by omega) (by rw [hal]; omega)
  have hc : Tryd.prog.cellsOf 3 = 1 := cells_int
  refine ⟨if 7 = m then ⟨b, 0, none⟩ else (⟨b, 0, none⟩ : Addr).add (m * 1), fun hlt => ?_, ?_⟩
  · rw [if_neg (by omega), Nat.mul_one, Addr.add_lit, Nat.zero_add]
  · rw [h, hel, run_sizeOf W hi, Result.andThen_ok, hal, hc]
    simp [slicedAt]

end Go.Proofs.YtgojojoanhilnabDoor
