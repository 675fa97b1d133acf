/- slices.Equal of two rows of partings. -/
import Derived.Test.YtamnacgclhaggabPar
import Derived.Laws.StructEq
import Derived.RegionTactic
import Derived.BigQuiet
import Derived.Deep.QuietTactic
namespace Go.Proofs.Ytamnacgclhaggab
open Go.ChangeShapes Go.WideShapes Go.ChangeAt Go.RowKit

theorem neq_prt (w : World) (x y z u a b c d : Int) :
    (binOp .neq 59 (.agg #[.int .i64 x, .int .i64 y, .int .i64 z, .int .i64 u]) (.agg #[.int .i64 a, .int .i64 b, .int .i64 c, .int .i64 d])).run Try.prog w = .ok (.bool (!decide ([x, y, z, u] = [a, b, c, d]))) w := by
  have h1 : (isAgg 3).run Try.prog w = .ok false w := by
    unfold isAgg
    rw [Sem.run_bind, run_underlying Try.underlying3 w]
    simp
  have h2 : (isAgg 57).run Try.prog w = .ok true w := by
    unfold isAgg
    rw [Sem.run_bind, run_underlying Try.underlying57 w]
    simp
  have p1 : Try.prog.stoodInHeld 59 = false := by kernel_rfl
  have p2 : Try.prog.stoodInHeld 57 = false := by kernel_rfl
  have u1 : Try.prog.underlying 59 = some (.struct (Try.prog.fieldsOf 59)) := by kernel_rfl
  have u2 : Try.prog.underlying 57 = some (.struct (Try.prog.fieldsOf 57)) := by kernel_rfl
  have e3 : ∀ V : World, (isAgg 3).run Try.prog V = .ok false V := fun V => by
    unfold isAgg
    rw [Sem.run_bind, run_underlying Try.underlying3 V]
    simp
  obtain ⟨i0, hi0, _, hs0, _⟩ := info_parts readPair_info
  have hpair : ∀ (a b c d : Int) (V : World), (Op.equalIn 9999 57 (.agg #[.int .i64 a, .int .i64 b]) (.agg #[.int .i64 c, .int .i64 d])).run Try.prog V = .ok (decide (a = c ∧ b = d)) V := fun a b c d V => by
    rw [run_equalIn_struct V 9998 _ _ _ u2 p2]
    simp [Program.fieldsOf, Try.underlying57, Op.eqFields, Sem.run_bind, part, e3, run_equalIn_int _ _ _ _ _ _ _ Try.underlying3]
    repeat' split
    all_goals simp_all
  rw [run_neq_struct, run_equalIn_struct w 9999 _ _ _ u1 p1]
  simp [Program.fieldsOf, Try.underlying59, Op.eqFields, Sem.run_bind, part, h2, sizeOf, typeInfo, hi0, hs0, hpair]
  repeat' split
  all_goals
    clear hpair u1 u2
    first | (simp_all; done) | (simp_all; omega) | omega

theorem rowK_four {L : List (List Int)} (h : ∀ l ∈ L, l.length = 4) {k : Nat} (hk : k < L.length) : ∃ x y z u, rowK L k = [x, y, z, u] := of_four (h _ (rowK_mem hk))
theorem take_rowK (L : List (List Int)) (k : Nat) (h : k < L.length) : L.take (k + 1) = L.take k ++ [rowK L k] := by
  rw [List.take_succ_eq_append_getElem h]
  simp [rowK, List.getD, h]

set_option maxRecDepth 10000 in
set_option maxHeartbeats 1000000 in
theorem eqP_any (v1 v2 : Value) (L1 L2 : List (List Int)) (B1 B2 : Nat) (w : World) (h1 : RowN w B1 59 4 v1 L1) (h2 : RowN w B2 59 4 v2 L2) (hn1 : L1.length ≤ 3000) :
    Calls Try.prog 75 #[v1, v2] w fun e w' => e = .returned (.bool (decide (L1 = L2))) ∧ ∃ p, w' = w.drewN p := by
  obtain ⟨A1, c1, rfl⟩ := h1.slice
  obtain ⟨A2, c2, rfl⟩ := h2.slice
  have HG : Try.prog.eqGuardType Try.prog.depth 59 = false := by kernel_rfl
  by_cases hl : L1.length = L2.length
  rotate_left
  · have hd : decide (L1 = L2) = false := by
      rw [decide_eq_false_iff_not]; intro e; exact hl (by rw [e])
    rw [hd]
    clear hd h1 h2
    generalize L1.length = n1 at *
    generalize L2.length = n2 at *
    go_enter Try.func75, Try.ntmps75
    go_wp2
    go_ret
    exact ⟨rfl, 0, rfl⟩
  obtain ⟨N, hN⟩ : ∃ N, N = L1.length := ⟨_, rfl⟩
  have HN := Lib.hid hN
  have HM : Hid (L2.length = N) := by rw [Hid, hN, hl]
  rw [← hl, ← hN] at h2
  rw [← hN] at h1 hn1
  have H1 := Lib.hid h1
  have H2 := Lib.hid h2
  rw [← hl, ← hN]
  clear h1 h2 hl hN
  go_enter Try.func75, Try.ntmps75
  go_wp2
  go_loopw [13] (fun i wr => ∃ k : Nat, k ≤ N ∧ i = .int .i64 k ∧ Hid (L1.take k = L2.take k) ∧ ∃ p, wr = w.drewN p) (fun i _ => N - (intOf i).toNat)
  case atStart => exact ⟨0, Nat.zero_le _, rfl, by simp [Hid], 0, rfl⟩
  case round =>
    obtain ⟨k, hk, rfl, ht, p, rfl⟩ := hrel
    by_cases hlt : k < N
    · have k1 : k < L1.length := by rw [← HN.out]; exact hlt
      have k2 : k < L2.length := by rw [HM.out]; exact hlt
      obtain ⟨g1, d1, e1, _, _, _, _, _, hc1⟩ := H1.out.elem k1
      obtain ⟨g2, d2, e2, _, _, _, _, _, hc2⟩ := H2.out.elem k2
      injection e1 with e11 e12 e13
      injection e2 with e21 e22 e23
      subst e11
      subst e21
      clear e12 e13 e22 e23
      obtain ⟨x, y, z, u, hx⟩ := rowK_four H1.out.1 k1
      obtain ⟨a, b, c, d, ha⟩ := rowK_four H2.out.1 k2
      have T1 := Lib.hid (take_rowK L1 k k1)
      have T2 := Lib.hid (take_rowK L2 k k2)
      rw [hx] at hc1 T1
      rw [ha] at hc2 T2
      have HNE : Hid (([x, y, z, u] : List Int) ≠ [a, b, c, d] → L1 ≠ L2) := fun h e => h (by rw [← hx, ← ha, e])
      have x0 := hc1 0 _ rfl
      have x1 := hc1 1 _ rfl
      have x2 := hc1 2 _ rfl
      have x3 := hc1 3 _ rfl
      have y0 := hc2 0 _ rfl
      have y1 := hc2 1 _ rfl
      have y2 := hc2 2 _ rfl
      have y3 := hc2 3 _ rfl
      have heq := fun W => neq_prt W x y z u a b c d
      clear hc1 hc2 hx ha k1 k2 H1 H2
      simp only [Nat.add_zero] at x0 y0
      by_cases he : ([x, y, z, u] : List Int) = [a, b, c, d]
      · have hdd : decide (([x, y, z, u] : List Int) = [a, b, c, d]) = true := by simpa using he
        rw [hdd] at heq
        have HT : Hid (L1.take (k + 1) = L2.take (k + 1)) := by rw [Hid, T1.out, T2.out, ht.out, he]
        clear T1 T2 he hdd HNE ht
        go_wp2
        go_quiet (fail)
        go_wp2
        go_roundw
        case rel => exact ⟨k + 1, by omega, by go_num, HT, _, rfl⟩
        case measure => simp [intOf]; omega
      · have hdd : decide (([x, y, z, u] : List Int) = [a, b, c, d]) = false := by simpa using he
        rw [hdd] at heq
        have HD : Hid (decide (L1 = L2) = false) := by rw [Hid, decide_eq_false_iff_not]; exact HNE.out he
        clear T1 T2 he hdd HNE ht
        go_wp2
        go_quiet (fail)
        go_wp2
        go_ret
        exact ⟨by rw [HD.out]; rfl, p + nq, by rw [World.drewN_drewN]⟩
    · obtain rfl : k = N := by omega
      have HD : Hid (decide (L1 = L2) = true) := by
        rw [Hid, decide_eq_true_eq]
        have h := ht.out
        rw [List.take_of_length_le (by have := HN.out; omega), List.take_of_length_le (by have := HM.out; omega)] at h
        exact h
      clear ht
      go_wp2
      go_ret
      exact ⟨by rw [HD.out]; rfl, p, rfl⟩
end Go.Proofs.Ytamnacgclhaggab
