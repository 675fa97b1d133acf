/- PatternSum of the model and of the program. -/
import Derived.Test.YtdcnplaghcgeoaaPnP
import Derived.Test.YtdcnplaghcgeoaaRank
namespace Go.Proofs.Ytdcnplaghcgeoaa
open Go.ChangeShapes Go.WideShapes Go.ChangeAt Go.RowKit

theorem num_four {p : List Int} (hr : Ring p) (h4 : p.length = 4) : numP p 4 = 0 ∨ numP p 4 = 1 ∨ numP p 4 = 2 ∨ numP p 4 = 3 ∨ numP p 4 = 4 ∨ numP p 4 = 5 := by
  have h := ring_num hr
  rw [h4] at h
  have e : facN (4 - 1) = 6 := by decide
  omega

set_option maxRecDepth 10000 in
set_option maxHeartbeats 4000000 in
theorem psS_any (A : Option Addr) (m c H : Nat) (q : Int) (p : List Int) (w : World) (h : Rd w H A m p) (_ : H ≤ w.heap.size) (hm : m ≤ 1048576) :
    Calls Try.prog 7 #[.int .i64 q, .slice A m c] w fun e w' => e = .returned (.tuple #[.int .i64 (psmR q p), .bool (psmB q p)]) ∧ Below w.heap.size w w' := by
  have HIN := Lib.hid (in_any q 3 7 w)
  have HRI := Lib.hid (ringS_any A m c H p w h hm)
  have HL := Lib.hid h.len
  by_cases hn : 3 ≤ q ∧ q ≤ 7
  rotate_left
  · have E : ¬ Psm q p := fun hf => hn hf.1
    rw [psmR, if_neg E, psmB_no E]
    have hd : (decide (3 ≤ q) && decide (q ≤ 7)) = false := by rw [Bool.and_eq_false_iff, decide_eq_false_iff_not, decide_eq_false_iff_not]; omega
    rw [hd] at HIN
    clear hn E hd h
    go_enter Try.func7, Try.ntmps7
    go_wp2_with (go_at_call 16; refine HIN.out.mono ?_; rintro e w' ⟨rfl, rfl⟩)
    go_ret2
    exact ⟨rfl, Below.refl _ _⟩
  have hd : (decide (3 ≤ q) && decide (q ≤ 7)) = true := by rw [Bool.and_eq_true, decide_eq_true_iff, decide_eq_true_iff]; omega
  rw [hd] at HIN
  by_cases hr : Ring p
  rotate_left
  · have E : ¬ Psm q p := fun hf => hr hf.2.1
    rw [psmR, if_neg E, psmB_no E]
    rw [ring_no hr] at HRI
    clear hn E hd h hr
    go_enter Try.func7, Try.ntmps7
    go_wp2_with (first
      | (go_at_call 16; refine HIN.out.mono ?_; rintro e w' ⟨rfl, rfl⟩)
      | (go_at_call 17; refine HRI.out.mono ?_; rintro e w' ⟨rfl, rfl⟩))
    go_ret2
    exact ⟨rfl, Below.refl _ _⟩
  rw [ring_yes hr] at HRI
  by_cases h4 : m = 4
  rotate_left
  · have E : ¬ Psm q p := fun hf => h4 (by rw [← HL.out]; exact hf.2.2)
    rw [psmR, if_neg E, psmB_no E]
    have hc : ((m : Int) != 4) = true := by simp; omega
    clear hn E hd h hr h4
    go_enter Try.func7, Try.ntmps7
    go_wp2_with (first
      | (go_at_call 16; refine HIN.out.mono ?_; rintro e w' ⟨rfl, rfl⟩)
      | (go_at_call 17; refine HRI.out.mono ?_; rintro e w' ⟨rfl, rfl⟩))
    go_ret2
    exact ⟨rfl, Below.refl _ _⟩
  subst h4
  have E : Psm q p := ⟨hn, hr, HL.out⟩
  rw [psmR, if_pos E, psmB_yes E]
  have HNU := Lib.hid (numS_any A 4 c H p w h (by omega) (by omega) hr)
  have hk := num_four hr HL.out
  have HF := Lib.hid (fun k (hk : k < 14) => fib_bd ⟨k, hk⟩)
  have HS : Hid (∀ k, fibN (k + 2) = fibN k + fibN (k + 1)) := fun _ => rfl
  generalize numP p 4 = K at *
  clear hd h hr E
  by_cases hK : K = 2 ∨ K = 4
  · obtain ⟨n, rfl⟩ : ∃ n : Nat, q = (n : Int) := ⟨q.toNat, by omega⟩
    have E1 : Hid (psQ n K = (fibN (2 * n - 4) : Int)) := by
      have h0 : ¬ (K = 0 ∨ K = 5) := by omega
      rw [Hid, psQ, if_neg h0, if_pos hK]
      obtain rfl | rfl | rfl | rfl | rfl : n = 3 ∨ n = 4 ∨ n = 5 ∨ n = 6 ∨ n = 7 := by omega
      all_goals rfl
    rw [Int.toNat_natCast, E1.out]
    have w1 : IntKind.i64.wrap (2 * (n : Int)) = 2 * (n : Int) := by rw [IntKind.wrap_i64]; omega
    have w2 : IntKind.i64.wrap (2 * (n : Int) - 3) = 2 * (n : Int) - 3 := by rw [IntKind.wrap_i64]; omega
    have hn' : 3 ≤ n ∧ n ≤ 7 := by omega
    clear hk hn E1
    obtain rfl | rfl := hK
    all_goals
      go_enter Try.func7, Try.ntmps7
      go_wp2_with (first
        | (go_at_call 16; refine HIN.out.mono ?_; rintro e w' ⟨rfl, rfl⟩)
        | (go_at_call 17; refine HRI.out.mono ?_; rintro e w' ⟨rfl, rfl⟩)
        | (go_at_call 18; refine HNU.out.mono ?_; rintro e w1 ⟨rfl, hb1⟩))
      go_loop [6, 7, 8] (fun x y i => ∃ k : Nat, k + 5 ≤ 2 * n ∧ i = .int .i64 ((k : Int) + 2) ∧ x = .int .i64 (fibN k : Int) ∧ y = .int .i64 (fibN (k + 1) : Int)) (fun _ _ i => 16 - (intOf i).toNat)
      case atStart => exact ⟨0, by omega, rfl, rfl, rfl⟩
      case round =>
        obtain ⟨k, hk, rfl, rfl, rfl⟩ := hrel
        have b1 := HF.out k (by omega)
        have b2 := HF.out (k + 1) (by omega)
        have T := HS.out k
        by_cases hlt : k + 5 < 2 * n
        · obtain ⟨x, hx⟩ : ∃ x, x = fibN k := ⟨_, rfl⟩
          obtain ⟨y, hy⟩ : ∃ y, y = fibN (k + 1) := ⟨_, rfl⟩
          rw [← hx] at b1 T ⊢
          rw [← hy] at b2 T ⊢
          have HT := Lib.hid T
          have HY := Lib.hid hy
          clear T hx hy
          go_wp2
          go_round
          case rel => exact ⟨k + 1, by omega, by go_num, by rw [HY.out], by rw [HT.out]; go_num⟩
          case measure => simp [intOf]; omega
        · have e : 2 * n - 4 = k + 1 := by omega
          go_wp2
          go_ret2
          exact ⟨by first | rfl | (rw [e]; rfl), hb1⟩
  have hk' : K = 0 ∨ K = 1 ∨ K = 3 ∨ K = 5 := by omega
  clear hk hK
  obtain rfl | rfl | rfl | rfl | rfl : q = 3 ∨ q = 4 ∨ q = 5 ∨ q = 6 ∨ q = 7 := by omega
  all_goals
    clear hn
    obtain rfl | rfl | rfl | rfl := hk'
    all_goals
      go_enter Try.func7, Try.ntmps7
      go_wp2_with (first
        | (go_at_call 16; refine HIN.out.mono ?_; rintro e w' ⟨rfl, rfl⟩)
        | (go_at_call 17; refine HRI.out.mono ?_; rintro e w' ⟨rfl, rfl⟩)
        | (go_at_call 18; refine HNU.out.mono ?_; rintro e w1 ⟨rfl, hb1⟩))
      go_ret2
      exact ⟨rfl, hb1⟩

attribute [local go_sem ↓] ldR_fold stR_fold in
set_option maxRecDepth 10000 in
set_option maxHeartbeats 4000000 in
theorem psI_any (A : Option Addr) (m c H : Nat) (q : Int) (p : List Int) (w : World) (h : Rd w H A m p) (hH : H ≤ w.heap.size) (hm : m ≤ 1048576) (hmc : m ≤ c) (hcm : c ≤ 9223372036854775807) :
    Calls Try.prog 6 #[.int .i64 q, .slice A m c] w fun e w' => e = .returned (.tuple #[.int .i64 (psmR q p), .bool (psmB q p)]) ∧ Below w.heap.size w w' := by
  have HRR := Lib.hid (readR_any A m c H p w h hH hm hmc hcm)
  have HSI := Lib.hid (fun W => sizeIn_any q W)
  have H7 := ringP_length p
  have HL := Lib.hid h.len
  clear h
  by_cases hr : Ring p
  rotate_left
  · have E : ¬ Psm q p := fun hf => hr hf.2.1
    rw [psmR, if_neg E, psmB_no E]
    rw [ring_no hr] at HRR
    clear E hr
    generalize ringP p = P at *
    go_enter Try.func6, Try.ntmps6
    go_wp2_with fail
    refine HRR.out.mono ?_
    rintro e w1 ⟨rfl, hb1⟩
    obtain ⟨W2, r2, hx2, hg2, hs2⟩ := stR_run (Q := P) (new_ring w1) rfl H7
    have HB2 : Hid (Below w.heap.size w W2) := (hb1.alloc hb1.size _).grown hg2 (by have := hb1.size; simp; omega) (by have := hb1.size; simp; omega)
    clear hb1 hx2 hg2 hs2
    go_wp2
    go_ret2
    exact ⟨rfl, HB2.out⟩
  rw [ring_yes hr] at HRR
  by_cases h4 : m = 4
  rotate_left
  · have E : ¬ Psm q p := fun hf => h4 (by rw [← HL.out]; exact hf.2.2)
    rw [psmR, if_neg E, psmB_no E]
    have hc : ((m : Int) != 4) = true := by simp; omega
    clear E hr h4
    generalize ringP p = P at *
    go_enter Try.func6, Try.ntmps6
    go_wp2_with fail
    refine HRR.out.mono ?_
    rintro e w1 ⟨rfl, hb1⟩
    obtain ⟨W2, r2, hx2, hg2, hs2⟩ := stR_run (Q := P) (new_ring w1) rfl H7
    have HB2 : Hid (Below w.heap.size w W2) := (hb1.alloc hb1.size _).grown hg2 (by have := hb1.size; simp; omega) (by have := hb1.size; simp; omega)
    clear hb1 hx2 hg2 hs2
    go_wp2
    go_ret2
    exact ⟨rfl, HB2.out⟩
  subst h4
  by_cases hn : 3 ≤ q ∧ q ≤ 7
  rotate_left
  · have E : ¬ Psm q p := fun hf => hn hf.1
    rw [psmR, if_neg E, psmB_no E]
    have hd : (decide (3 ≤ q) && decide (q ≤ 7)) = false := by rw [Bool.and_eq_false_iff, decide_eq_false_iff_not, decide_eq_false_iff_not]; omega
    rw [hd] at HSI
    clear hn E hd hr
    generalize ringP p = P at *
    go_enter Try.func6, Try.ntmps6
    go_wp2_with fail
    refine HRR.out.mono ?_
    rintro e w1 ⟨rfl, hb1⟩
    obtain ⟨W2, r2, hx2, hg2, hs2⟩ := stR_run (Q := P) (new_ring w1) rfl H7
    have HB2 : Hid (Below w.heap.size w W2) := (hb1.alloc hb1.size _).grown hg2 (by have := hb1.size; simp; omega) (by have := hb1.size; simp; omega)
    clear hb1 hx2 hg2 hs2
    go_wp2_with (go_at_call 12; refine (HSI.out _).mono ?_; rintro e w' ⟨rfl, rfl⟩)
    go_ret2
    exact ⟨rfl, HB2.out⟩
  have hd : (decide (3 ≤ q) && decide (q ≤ 7)) = true := by rw [Bool.and_eq_true, decide_eq_true_iff, decide_eq_true_iff]; omega
  rw [hd] at HSI
  have E : Psm q p := ⟨hn, hr, HL.out⟩
  rw [psmR, if_pos E, psmB_yes E]
  have HNU := Lib.hid (fun W => num_any p W (by have := hr.1.1; omega) hr.1.2.1 hr.1.pos)
  rw [HL.out] at HNU
  have hk := num_four hr HL.out
  have e1 : ringP p = padR p := by rw [ringP, if_pos hr]
  rw [e1] at HRR H7
  unfold agp at HNU
  have HCH := Lib.hid (fun W => choose_any q W hn.1 hn.2)
  have HAD : Hid (∀ (M : Int) (W : World), 1 ≤ M → M ≤ 11 → Calls Try.prog 15 #[.int .i64 M] W fun e w' => e = .returned (.int .i64 (fibN (M.toNat - 1) : Int)) ∧ W = w') := fun M W h1 h11 => by
    have := added_any M.toNat W (by omega) (by omega)
    rw [Int.toNat_of_nonneg (by omega)] at this
    exact this
  generalize numP p 4 = K at *
  generalize padR p = P at *
  obtain ⟨q0, q1, q2, q3, q4, q5, q6, rfl⟩ := seven H7
  simp only [ints, List.map_cons, List.map_nil] at HRR HNU
  clear hd hr E e1
  obtain rfl | rfl | rfl | rfl | rfl : q = 3 ∨ q = 4 ∨ q = 5 ∨ q = 6 ∨ q = 7 := by omega
  all_goals
    clear hn
    simp only [show choN 3 = 1 from rfl, show choN 4 = 4 from rfl, show choN 5 = 10 from rfl, show choN 6 = 20 from rfl, show choN 7 = 35 from rfl] at HCH
    obtain rfl | rfl | rfl | rfl | rfl | rfl := hk
    all_goals
      go_enter Try.func6, Try.ntmps6
      go_wp2_with fail
      refine HRR.out.mono ?_
      rintro e w1 ⟨rfl, hb1⟩
      obtain ⟨W2, r2, hx2, hg2, hs2⟩ := stR_run (Q := [q0, q1, q2, q3, q4, q5, q6]) (new_ring w1) rfl rfl
      have HB2 : Hid (Below w.heap.size w W2) := (hb1.alloc hb1.size _).grown hg2 (by have := hb1.size; simp; omega) (by have := hb1.size; simp; omega)
      have l2 := ldR_run hx2 rfl
      simp only [ints, List.map_cons, List.map_nil] at r2 l2
      clear hb1 hx2 hg2 hs2
      go_wp2_with (first
        | (go_at_call 12; refine (HSI.out _).mono ?_; rintro e w' ⟨rfl, rfl⟩)
        | (go_at_call 13; refine (HNU.out _).mono ?_; rintro e w3 ⟨rfl, hb3⟩
           have HB3 := Lib.hid (HB2.out.trans (hb3.mono HB2.out.size))
           clear hb3 l2 r2)
        | (go_at_call 15; refine (HAD.out _ _ (by omega) (by omega)).mono ?_; rintro e w4 ⟨rfl, rfl⟩))
      first
        | (go_quiet (refine Calls.quiet_of_same ((HCH.out _).mono fun e w' h => ⟨h.1, h.2.symm⟩))
           go_wp2
           go_ret2
           exact ⟨rfl, below_drewN HB3.out _⟩)
        | (go_ret2
           exact ⟨rfl, HB3.out⟩)
end Go.Proofs.Ytdcnplaghcgeoaa
