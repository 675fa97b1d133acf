/- The laws' own helpers over slices of slices: the size, the copy, the comparison, the marking and the check of marks. -/
import Derived.Test.YtjpbmhlojpaieaaDoorMat
namespace Go.Proofs.YtjpbmhlojpaieaaDoor
open Go.ChangeShapes Go.WideShapes Go.ChangeAt Go.RowKit

/-- How many numbers and rows there are among the first k rows. -/
def sumTo (L : List (List Int)) : Nat → Nat
  | 0 => 0
  | k + 1 => sumTo L k + (rowK L k).length
def tot (L : List (List Int)) : Nat := L.length + sumTo L L.length
theorem sumTo_le (L : List (List Int)) (k m : Nat) (h : k ≤ m) : sumTo L k ≤ sumTo L m := by
  induction m with
  | zero => obtain rfl : k = 0 := by omega
            exact Nat.le_refl _
  | succ m ih =>
    rcases Nat.lt_or_ge k (m + 1) with h1 | h1
    · have := ih (by omega); simp only [sumTo]; omega
    · obtain rfl : k = m + 1 := by omega
      exact Nat.le_refl _
theorem row_le (L : List (List Int)) (k : Nat) (h : k < L.length) : (rowK L k).length ≤ tot L := by
  have := sumTo_le L (k + 1) L.length (by omega)
  simp only [sumTo] at this
  unfold tot; omega

theorem szInt_any (A : Option Addr) (n c : Nat) (q : Int) (w : World) (hq : 0 ≤ q) (hq' : q ≤ 1048576) (hn : n ≤ 9223372036854775807) :
    Calls Tryd.prog 32 #[.slice A n c, .int .i64 q] w fun e w' => e = .returned (.int .i64 (if (n : Int) ≤ q then q - n else -1)) ∧ w = w' := by
  by_cases h : (n : Int) ≤ q
  · rw [if_pos h]
    go_enter Tryd.func32, Tryd.ntmps32
    go_wp2
    go_ret
    exact ⟨by congr 2, rfl⟩
  · rw [if_neg h]
    go_enter Tryd.func32, Tryd.ntmps32
    go_wp2
    go_ret
    exact ⟨rfl, rfl⟩

set_option maxHeartbeats 400000 in
theorem szIntSS_any (A : Option Addr) (n c H : Nat) (L : List (List Int)) (w : World) (h : RdS w H A n L) (hn : n ≤ 9223372036854775807) :
    Calls Tryd.prog 12 #[.slice A n c, .int .i64 1048576] w fun e w' => (∃ r, e = .returned (.int .i64 r) ∧ (0 ≤ r → tot L ≤ 1048576) ∧ r < 1048577 ∧ -2 < r) ∧ w = w' := by
  have HL := Lib.hid h.len
  by_cases hb : n ≤ 1048576
  · go_enter Tryd.func12, Tryd.ntmps12
    go_wp2
    go_loop [1, 5] (fun r i => ∃ k : Nat, k ≤ n ∧ i = .int .i64 k ∧ n + sumTo L k ≤ 1048576 ∧ r = .int .i64 (1048576 - (n : Int) - sumTo L k)) (fun _ i => n - (intOf i).toNat)
    case atStart => exact ⟨0, Nat.zero_le _, rfl, by simp [sumTo]; omega, by simp [sumTo]⟩
    case round =>
      obtain ⟨k, hk, rfl, hs, rfl⟩ := hrel
      by_cases hlt : k < n
      · obtain ⟨b, o, rfl, hbB, hcs⟩ := h.at_ (by omega)
        obtain ⟨Ak, ck, hc, hr, hle, hmx⟩ := hcs k hlt
        have hst : sumTo L (k + 1) = sumTo L k + (rowK L k).length := rfl
        have HST := Lib.hid hst
        clear hst hcs hr
        generalize (rowK L k).length = m at *
        by_cases hfit : n + (sumTo L k + m) ≤ 1048576
        · go_wp2_with (go_at_call 32; refine (szInt_any _ _ _ _ _ (by omega) (by omega) (by omega)).mono ?_; rw [if_pos (by omega)]; rintro e w' ⟨rfl, rfl⟩)
          go_round
          case rel => exact ⟨k + 1, by omega, by go_num, by rw [HST.out]; exact hfit, by rw [HST.out]; congr 1; omega⟩
          case measure => simp [intOf]; omega
        · go_wp2_with (go_at_call 32; refine (szInt_any _ _ _ _ _ (by omega) (by omega) (by omega)).mono ?_; rw [if_neg (by omega)]; rintro e w' ⟨rfl, rfl⟩)
          go_ret
          exact ⟨⟨-1, rfl, by omega, by omega, by omega⟩, rfl⟩
      · go_wp2
        go_ret
        obtain rfl : k = n := by omega
        refine ⟨⟨_, rfl, fun _ => ?_, by omega, by omega⟩, rfl⟩
        unfold tot
        rw [HL.out]
        omega
  · go_enter Tryd.func12, Tryd.ntmps12
    go_wp2
    go_ret
    exact ⟨⟨-1, rfl, by omega, by omega, by omega⟩, rfl⟩

/-- What eqIntSS answers. -/
def sameS (L M : List (List Int)) : Bool := decide (L = M)
theorem takeS_step (xs ys : List (List Int)) (k : Nat) (hx : k < xs.length) (hy : k < ys.length) (h : xs.take k = ys.take k) (e : rowK xs k = rowK ys k) : xs.take (k + 1) = ys.take (k + 1) := by
  rw [List.take_succ_eq_append_getElem hx, List.take_succ_eq_append_getElem hy, h]
  simp [rowK, List.getD, hx, hy] at e
  rw [e]

theorem eq_same (A A' : Option Addr) (n n' c c' H H' : Nat) (l : List Int) (w : World) (h : Rd w H A n l) (h' : Rd w H' A' n' l) (hn : l.length ≤ 1048576) :
    Calls Tryd.prog 9 #[.slice A n c, .slice A' n' c'] w fun e w' => e = .returned (.bool true) ∧ ∃ m, w' = w.drewN m := by
  have h1 := h.len
  have h2 := h'.len
  refine (eqIntS_drew A A' n n' c c' l l (H + H') w (h.more (by omega)) (h'.more (by omega)) (by omega) (by omega)).mono ?_
  rintro e w' ⟨rfl, q⟩
  exact ⟨by simp [same], q⟩

set_option maxHeartbeats 400000 in
theorem eqSS_same (A B : Option Addr) (n m c d H H' : Nat) (L : List (List Int)) (w : World) (hx : RdS w H A n L) (hy : RdS w H' B m L) (hn : tot L ≤ 1048576) :
    Calls Tryd.prog 16 #[.slice A n c, .slice B m d] w fun e w' => e = .returned (.bool true) ∧ Below w.heap.size w w' := by
  obtain rfl : n = m := hx.len.symm.trans hy.len
  have hL := hx.len
  have hrow : ∀ k, k < n → (rowK L k).length ≤ 1048576 := fun k hk => Nat.le_trans (row_le L k (by omega)) hn
  have hnb : n ≤ 1048576 := by unfold tot at hn; omega
  have HROW := Lib.hid hrow
  clear hL hrow hn
  go_enter Tryd.func16, Tryd.ntmps16
  go_wp2
  go_loopw [5] (fun i wr => ∃ k : Nat, k ≤ n ∧ i = .int .i64 k ∧ RdS wr H A n L ∧ RdS wr H' B n L ∧ Below w.heap.size w wr) (fun i _ => n - (intOf i).toNat)
  case atStart => exact ⟨0, Nat.zero_le _, rfl, hx, hy, Below.refl _ _⟩
  case round =>
    obtain ⟨k, hk, rfl, hrx, hry, hbl⟩ := hrel
    clear hx hy
    by_cases hlt : k < n
    · obtain ⟨b, o, rfl, hbB, hcs⟩ := hrx.at_ (by omega)
      obtain ⟨b', o', rfl, hbB', hcs'⟩ := hry.at_ (by omega)
      obtain ⟨Ak, ck, hc, hr, _, _⟩ := hcs k hlt
      obtain ⟨Ak', ck', hc', hr', _, _⟩ := hcs' k hlt
      clear hcs hcs'
      have HE := fun q => Lib.hid (eq_same Ak Ak' _ _ ck ck' H H' (rowK L k) (wr.drewN q) (hr.drewN q) (hr'.drewN q) (HROW.out k hlt))
      have HH := Lib.hid HE
      clear hr hr' HE
      generalize (rowK L k).length = z at *
      go_wp2
      go_quiet (refine Calls.quiet_of ((HH.out _).out))
      go_wp2
      go_roundw
      case rel => exact ⟨k + 1, by omega, by go_num, hrx.drewN _, hry.drewN _, below_drewN hbl _⟩
      case measure => simp [intOf]; omega
    · go_wp2
      go_ret
      exact ⟨rfl, hbl⟩
end Go.Proofs.YtjpbmhlojpaieaaDoor
