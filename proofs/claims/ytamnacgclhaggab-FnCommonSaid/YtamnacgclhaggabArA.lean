/- All arcs of a ring in ascending order; those of two rings: the model and the program. -/
import Derived.Test.YtamnacgclhaggabArS
import Derived.Test.YtamnacgclhaggabFold
import Derived.Deep.QuietTactic
import Derived.Test.YtamnacgclhaggabMA
import Derived.BigRegion
namespace Go.Proofs.Ytamnacgclhaggab
open Go.ChangeShapes Go.WideShapes Go.ChangeAt Go.RowKit

/-- The numbers below k that are asked for. -/
def arcsTo (q : Nat → Bool) (k : Nat) : List Int := ((List.range k).filter q).map fun s : Nat => (s : Int)
theorem arcsTo_yes {q : Nat → Bool} {k : Nat} (h : q k = true) : arcsTo q k ++ [(k : Int)] = arcsTo q (k + 1) := by
  unfold arcsTo
  rw [List.range_succ, List.filter_append, List.map_append]
  simp [h]
theorem arcsTo_no {q : Nat → Bool} {k : Nat} (h : q k = false) : arcsTo q k = arcsTo q (k + 1) := by
  unfold arcsTo
  rw [List.range_succ, List.filter_append, List.map_append]
  simp [h]
theorem arcsTo_len (q : Nat → Bool) (k : Nat) : (arcsTo q k).length ≤ k := by
  have := List.length_filter_le q (List.range k)
  simpa [arcsTo] using this
def isA (l : List Int) (s : Nat) : Bool := decide (runN (hasN s) l = 1)
theorem isA_zero (l : List Int) : isA l 0 = false := by
  have : ∀ k, (runP (hasN 0) l k).length = 0 := fun k => by
    induction k with
    | zero => rfl
    | succ k ih => rw [runP_step, ih]; simp [begs, hasN]
  simp [isA, runN, this]
/-- All arcs of a ring. -/
def allA (l : List Int) : List Int := arcsTo (isA l) (2 ^ l.length - 1)
def comA (l r : List Int) : List Int := arcsTo (fun s => isA l s && isA r s) (2 ^ l.length - 1)
theorem comA_self (l : List Int) : comA l l = allA l := by unfold comA allA; congr; funext s; exact Bool.and_self _
theorem pow_bd (n : Nat) (h : n ≤ 7) : 2 ^ n ≤ 128 ∧ 1 ≤ 2 ^ n := ⟨Nat.pow_le_pow_right (by omega) h, Nat.pos_of_ne_zero (by simp)⟩

attribute [local go_sem ↓] apI_fold in
set_option maxRecDepth 10000 in
set_option maxHeartbeats 2000000 in
theorem allS_any (A : Option Addr) (n c H : Nat) (l : List Int) (w : World) (h : Rd w H A n l) (hH : H ≤ w.heap.size) (h3 : 3 ≤ n) (h7 : n ≤ 7) (hp : ∀ x ∈ l, 0 ≤ x ∧ x < 7) :
    Calls Try.prog 98 #[.slice A n c] w fun e w' => ∃ v, e = .returned v ∧ Own w' w.heap.size v (allA l) ∧ Below w.heap.size w w' := by
  have HL := Lib.hid h.len
  obtain ⟨N, hN⟩ : ∃ N, N = 2 ^ n - 1 := ⟨_, rfl⟩
  have HN := Lib.hid hN
  have hpb := pow_bd n h7
  have HA : Hid (allA l = arcsTo (isA l) N) := by rw [Hid, allA, h.len, hN]
  rw [HA.out]
  have HR := Lib.hid (fun (V : World) (s : Nat) (hV : Rd V H A n l) (hs : s < N) => runS_any A n c H l s V hV (by omega) h7 hp (by omega))
  have HYES := Lib.hid (fun k => arcsTo_yes (q := isA l) (k := k))
  have HNO := Lib.hid (fun k => arcsTo_no (q := isA l) (k := k))
  have HLEN := Lib.hid (fun k => arcsTo_len (isA l) k)
  have HIS : Hid (∀ s, isA l s = ((runN (hasN s) l : Int) == 1)) := fun s => by rw [isA, Bool.eq_iff_iff, decide_eq_true_iff, beq_iff_eq]; omega
  have H1 : Hid (arcsTo (isA l) 1 = []) := by rw [Hid, ← arcsTo_no (isA_zero l)]; rfl
  have ho0 := own_empty w _ (Nat.le_refl _)
  have hb0 := (Below.refl w.heap.size w).alloc (Nat.le_refl _) (.cells #[] 3)
  have hr0 := h.alloc hH (.cells #[] 3)
  have hc : (n = 3 ∧ N = 7) ∨ (n = 4 ∧ N = 15) ∨ (n = 5 ∧ N = 31) ∨ (n = 6 ∧ N = 63) ∨ (n = 7 ∧ N = 127) := by
    obtain rfl | rfl | rfl | rfl | rfl : n = 3 ∨ n = 4 ∨ n = 5 ∨ n = 6 ∨ n = 7 := by omega
    all_goals simpa using hN
  clear h hp HN hN hpb HA
  obtain ⟨rfl, hNl⟩ | ⟨rfl, hNl⟩ | ⟨rfl, hNl⟩ | ⟨rfl, hNl⟩ | ⟨rfl, hNl⟩ := hc
  all_goals
    have HNL := Lib.hid hNl
    clear hNl
    go_enter Try.func98, Try.ntmps98
    go_wp2_with fail
    obtain ⟨W0, h0⟩ : ∃ W, W = w.alloc (.cells #[] 3) := ⟨_, rfl⟩
    rw [← h0] at ho0 hb0 hr0 ⊢
    clear h0
    go_loopw [3, 4] (fun v i wr => ∃ k : Nat, 1 ≤ k ∧ k ≤ N ∧ i = .int .i64 k ∧ Hid (Own wr w.heap.size v (arcsTo (isA l) k)) ∧ Hid (Rd wr H A _ l) ∧ Hid (Below w.heap.size w wr)) (fun _ i _ => N - (intOf i).toNat)
    case atStart => exact ⟨1, Nat.le_refl _, by have := HNL.out; omega, rfl, by rw [Hid, H1.out]; exact ho0, hr0, hb0⟩
    case round =>
      obtain ⟨k, hk1, hk, rfl, hown, hrd, hbl⟩ := hrel
      clear ho0 hb0 hr0
      have hN := HNL.out
      by_cases hlt : k < N
      · have HC := Lib.hid (HR.out wr k hrd.out hlt)
        have HI := Lib.hid (HIS.out k)
        have hle := HLEN.out k
        cases hi : isA l k with
        | false =>
          have HE := Lib.hid (HNO.out k hi)
          rw [hi] at HI
          have hb := HI.out.symm
          generalize runN (hasN k) l = r at *
          subst hN
          clear hi HI HR
          go_wp2_with fail
          refine HC.out.mono ?_
          rintro e w' ⟨rfl, rfl⟩
          go_wp2
          go_roundw
          case rel => exact ⟨k + 1, by omega, by omega, by go_num, by rw [← HE.out]; exact hown, hrd, hbl⟩
          case measure => simp [intOf]; omega
        | true =>
          have HE := Lib.hid (HYES.out k hi)
          rw [hi] at HI
          have hb := HI.out.symm
          obtain ⟨v', w1, hrun, hown', hgrow⟩ := apI_run hown.out hbl.out.size (by omega) (k : Int)
          rw [HE.out] at hown'
          have HO := Lib.hid hown'
          have HB1 := Lib.hid (apI_below hown.out hgrow (Nat.le_refl _) hbl.out hbl.out.size)
          have HR1 := Lib.hid (hrd.out.below (apI_below hown.out hgrow hH (Below.refl H wr) (Nat.le_trans hH hbl.out.size)))
          generalize runN (hasN k) l = r at *
          subst hN
          clear hi HI HR hown hown' hgrow hrd hbl
          go_wp2_with fail
          refine HC.out.mono ?_
          rintro e w' ⟨rfl, rfl⟩
          go_wp2
          go_roundw
          case rel => exact ⟨k + 1, by omega, by omega, by go_num, HO, HR1, HB1⟩
          case measure => simp [intOf]; omega
      · obtain rfl : k = N := by omega
        subst hN
        go_wp2
        go_ret
        exact ⟨_, rfl, hown.out, hbl.out⟩
end Go.Proofs.Ytamnacgclhaggab
