/- The model's check of four different points. -/
import Derived.Test.YtamnacgclhaggaaPar
namespace Go.Proofs.Ytamnacgclhaggaa
open Go.ChangeShapes Go.WideShapes Go.ChangeAt Go.RowKit

theorem and_small (a b : Nat) (ha : a < 128) (hb : b < 128) : bits .and .i64 (a : Int) (b : Int) = ((a &&& b : Nat) : Int) := by
  have key : ∀ x : Fin 128, (BitVec.ofInt 64 ((x.val : Nat) : Int)).toNat = x.val := fun x => by
    have := x.isLt
    simp only [BitVec.toNat_ofInt]
    omega
  have e1 := key ⟨a, ha⟩
  have e2 := key ⟨b, hb⟩
  simp only at e1 e2
  have hlt : a &&& b < 128 := Nat.lt_of_le_of_lt Nat.and_le_left ha
  change IntKind.i64.wrap ((BitVec.ofInt 64 (a : Int) &&& BitVec.ofInt 64 (b : Int)).toNat : Int) = _
  simp only [IntKind.wrap_i64, BitVec.toNat_and, e1, e2]
  omega
theorem mask_in (l : List Int) (h : ∀ y ∈ l, 0 ≤ y ∧ y < 7) (x : Int) (h0 : 0 ≤ x) : (bits BinOp.and IntKind.i64 (maskI l / 2 ^ x.toNat) 1 == 1) = decide (x ∈ l) := by
  obtain ⟨e, hlt⟩ := mask_eq l h 0 (by omega)
  have hb := mask_bit l (fun y hy => (h y hy).1) x.toNat 0
  rw [Int.toNat_of_nonneg h0, Nat.zero_testBit, Bool.false_or] at hb
  change maskI l = ((l.foldl (fun s x => s ||| 2 ^ x.toNat) 0 : Nat) : Int) at e
  rw [e]
  generalize l.foldl (fun s x => s ||| 2 ^ x.toNat) 0 = M at *
  have hd : (M : Int) / 2 ^ x.toNat = ((M / 2 ^ x.toNat : Nat) : Int) := by simp
  have hle : M / 2 ^ x.toNat ≤ M := Nat.div_le_self _ _
  have h1 := and_small (M / 2 ^ x.toNat) 1 (by omega) (by omega)
  rw [Nat.and_one_is_mod] at h1
  rw [hd, show (1 : Int) = ((1 : Nat) : Int) from rfl, h1, ← hb, Nat.testBit_eq_decide_div_mod_eq]
  rw [Bool.eq_iff_iff]
  simp
  omega

set_option maxHeartbeats 1000000 in
theorem l3Four_any (A : Option Addr) (m c H : Nat) (l : List Int) (n : Int) (w : World) (h : Rd w H A m l) (hm : m ≤ 9223372036854775807) (h3 : 3 ≤ n) (h7 : n ≤ 7) :
    Calls Try.prog 63 #[.int .i64 n, .slice A m c] w fun e w' => e = .returned (.bool (four n l)) ∧ w' = w := by
  have HL := Lib.hid h.len
  have HR := Lib.hid h
  have hwn : IntKind.i64.wrap (n - 1) = n - 1 := IntWalk.i64_in _ (by omega)
  clear h
  go_enter Try.func63, Try.ntmps63
  go_wp2_with fail
  go_loop [5, 6] (fun s i => ∃ k : Nat, k ≤ m ∧ i = .int .i64 k ∧ Hid (PtsTo n l k) ∧ ∃ q : Int, s = .int .i64 q ∧ Hid (q = maskI (l.take k))) (fun _ i => m - (intOf i).toNat)
  case atStart => exact ⟨0, Nat.zero_le _, rfl, ⟨fun j hj => absurd hj (by omega), by simp⟩, 0, rfl, rfl⟩
  case round =>
    obtain ⟨k, hk, rfl, hin, q, rfl, hq⟩ := hrel
    by_cases hlt : k < m
    · obtain ⟨b, o, rfl, hbH, hcs⟩ := HR.out.at_ (by omega)
      have hc := hcs k hlt
      have T1 := Lib.hid (pts_step n l k (by rw [HL.out]; exact hlt) hin.out)
      have T3 : Hid (bits BinOp.or IntKind.i64 q (wrap64 (2 ^ min (l.getD k 0).toNat 64)) = maskI (l.take (k + 1))) := by
        have := maskI_step l k (by rw [HL.out]; exact hlt)
        rw [← hq.out] at this
        exact this.symm
      have hM : ∀ x, 0 ≤ x → (bits BinOp.and IntKind.i64 (q / 2 ^ x.toNat) 1 == 1) = decide (x ∈ l.take k) := fun x h0 => by
        rw [hq.out]
        exact mask_in (l.take k) (fun y hy => by
          obtain ⟨j, hj, rfl⟩ := List.getElem_of_mem hy
          have hj' := hj
          rw [List.length_take] at hj'
          have := hin.out.1 j (by omega)
          rw [List.getElem_take]
          simp only [List.getD, List.getElem?_eq_getElem (show j < l.length by omega), Option.getD_some] at this
          omega) x h0
      have HM := Lib.hid hM
      clear hcs hM hin hq
      generalize hx : l.getD k 0 = x at hc T1 T3
      clear hx
      by_cases hr : 0 ≤ x ∧ x ≤ n - 1
      · have hb : (decide (0 ≤ x) && decide (x ≤ n - 1)) = true := by simp; omega
        obtain ⟨hr0, hr1⟩ := hr
        have hmx := HM.out x hr0
        by_cases hmem : x ∈ l.take k
        · have TF : Hid (four n l = false) := by
            rw [Hid, four, decide_eq_false_iff_not]
            exact fun hh => (T1.out.2 (fun h => h.2.2 hmem)) hh.2
          rw [decide_eq_true hmem] at hmx
          clear T1 T3 HM hmem
          go_wp2_with (go_at_call 67; refine (in_any _ _ _ _).mono ?_; rintro e w' ⟨rfl, rfl⟩)
          go_ret
          exact ⟨by rw [TF.out]; rfl, rfl⟩
        · have TT := Lib.hid (T1.out.1 ⟨hr0, by omega, hmem⟩)
          rw [show min x.toNat 64 = x.toNat by omega] at T3
          rw [decide_eq_false hmem] at hmx
          clear T1 HM hmem
          go_wp2_with (go_at_call 67; refine (in_any _ _ _ _).mono ?_; rintro e w' ⟨rfl, rfl⟩)
          go_round
          case rel => exact ⟨k + 1, by omega, by go_num, TT, _, rfl, T3⟩
          case measure => simp [intOf]; omega
      · have hb : (decide (0 ≤ x) && decide (x ≤ n - 1)) = false := by simp; omega
        have TF : Hid (four n l = false) := by
          rw [Hid, four, decide_eq_false_iff_not]
          exact fun hh => (T1.out.2 (fun h => hr ⟨h.1, by omega⟩)) hh.2
        clear T1 T3 HM hr
        go_wp2_with (go_at_call 67; refine (in_any _ _ _ _).mono ?_; rintro e w' ⟨rfl, rfl⟩)
        go_ret
        exact ⟨by rw [TF.out]; rfl, rfl⟩
    · obtain rfl : k = m := by omega
      have HT := Lib.hid (pts_end n l (by rw [HL.out]; exact hin.out))
      have TF : Hid (four n l = ((k : Int) == 4)) := by
        rw [Hid, four, Bool.eq_iff_iff, decide_eq_true_eq]
        unfold Four
        simp [HT.out, HL.out]
        omega
      clear hin hq HT
      go_wp2
      go_ret
      exact ⟨by rw [TF.out]; rfl, rfl⟩
end Go.Proofs.Ytamnacgclhaggaa
