/- PatternSum of the model and of the program. -/
import Derived.Test.YtmfilnpbkonfaaaDoorPnP
import Derived.Test.YtmfilnpbkonfaaaDoorPR
namespace Go.Proofs.YtmfilnpbkonfaaaDoor
open Go.ChangeShapes Go.WideShapes Go.ChangeAt Go.RowKit

theorem num_four {p : List Int} (hr : Ring p) (h4 : p.length = 4) : numP p 4 = 0 ∨ numP p 4 = 1 ∨ numP p 4 = 2 ∨ numP p 4 = 3 ∨ numP p 4 = 4 ∨ numP p 4 = 5 := by
  have h := ring_num hr
  rw [h4] at h
  have e : facN (4 - 1) = 6 := by decide
  omega

attribute [local go_sem ↓] ldR_fold stR_fold in
set_option maxRecDepth 10000 in
set_option maxHeartbeats 4000000 in
theorem psI_any (A : Option Addr) (m c H : Nat) (q : Int) (p : List Int) (w : World) (h : Rd w H A m p) (hH : H ≤ w.heap.size) (hm : m ≤ 1048576) (hmc : m ≤ c) (hcm : c ≤ 9223372036854775807) :
    Calls Tryd.prog 11 #[.int .i64 q, .slice A m c] w fun e w' => e = .returned (.tuple #[.int .i64 (psmR q p), .bool (psmB q p)]) ∧ Below w.heap.size w w' := by
  have HRR := Lib.hid (readR_any A m c H p w h hH hm hmc hcm)
  have HSI := Lib.hid (fun W => sizeIn_any q W)
  have H7 := ringP_length p
  have HL := Lib.hid h.len
  clear h
  by_cases hr : Ring p
  rotate_left
  · have E : ¬ Psm q p := fun hf => hr hf.2.1
    rw [psmR, if_neg E, psmB_no E]
    rw [ring_no hr] at HRR
    clear E hr
    generalize ringP p = P at *
    go_enter Tryd.func11, Tryd.ntmps11
    go_wp2_with fail
    refine HRR.out.mono ?_
    rintro e w1 ⟨rfl, hb1⟩
    obtain ⟨W2, r2, hx2, hg2, hs2⟩ := stR_run (Q := P) (new_ring w1) rfl H7
    have HB2 : Hid (Below w.heap.size w W2) := (hb1.alloc hb1.size _).grown hg2 (by have := hb1.size; simp; omega) (by have := hb1.size; simp; omega)
    clear hb1 hx2 hg2 hs2
    go_wp2
    go_ret2
    exact ⟨rfl, HB2.out⟩
  rw [ring_yes hr] at HRR
  by_cases h4 : m = 4
  rotate_left
  · have E : ¬ Psm q p := fun hf => h4 (by rw [← HL.out]; exact hf.2.2)
    rw [psmR, if_neg E, psmB_no E]
    have hc : ((m : Int) != 4) = true := by simp; omega
    clear E hr h4
    generalize ringP p = P at *
    go_enter Tryd.func11, Tryd.ntmps11
    go_wp2_with fail
    refine HRR.out.mono ?_
    rintro e w1 ⟨rfl, hb1⟩
    obtain ⟨W2, r2, hx2, hg2, hs2⟩ := stR_run (Q := P) (new_ring w1) rfl H7
    have HB2 : Hid (Below w.heap.size w W2) := (hb1.alloc hb1.size _).grown hg2 (by have := hb1.size; simp; omega) (by have := hb1.size; simp; omega)
    clear hb1 hx2 hg2 hs2
    go_wp2
    go_ret2
    exact ⟨rfl, HB2.out⟩
  subst h4
  by_cases hn : 3 ≤ q ∧ q ≤ 7
  rotate_left
  · have E : ¬ Psm q p := fun hf => hn hf.1
    rw [psmR, if_neg E, psmB_no E]
    have hd : (decide (3 ≤ q) && decide (q ≤ 7)) = false := by rw [Bool.and_eq_false_iff, decide_eq_false_iff_not, decide_eq_false_iff_not]; omega
    rw [hd] at HSI
    clear hn E hd hr
    generalize ringP p = P at *
    go_enter Tryd.func11, Tryd.ntmps11
    go_wp2_with fail
    refine HRR.out.mono ?_
    rintro e w1 ⟨rfl, hb1⟩
    obtain ⟨W2, r2, hx2, hg2, hs2⟩ := stR_run (Q := P) (new_ring w1) rfl H7
    have HB2 : Hid (Below w.heap.size w W2) := (hb1.alloc hb1.size _).grown hg2 (by have := hb1.size; simp; omega) (by have := hb1.size; simp; omega)
    clear hb1 hx2 hg2 hs2
    go_wp2_with (go_at_call 24; refine (HSI.out _).mono ?_; rintro e w' ⟨rfl, rfl⟩)
    go_ret2
    exact ⟨rfl, HB2.out⟩
  have hd : (decide (3 ≤ q) && decide (q ≤ 7)) = true := by rw [Bool.and_eq_true, decide_eq_true_iff, decide_eq_true_iff]; omega
  rw [hd] at HSI
  have E : Psm q p := ⟨hn, hr, HL.out⟩
  rw [psmR, if_pos E, psmB_yes E]
  have HNU := Lib.hid (fun W => num_any p W (by have := hr.1.1; omega) hr.1.2.1 hr.1.pos)
  rw [HL.out] at HNU
  have hk := num_four hr HL.out
  have e1 : ringP p = padR p := by rw [ringP, if_pos hr]
  rw [e1] at HRR H7
  unfold agp at HNU
  have HCH := Lib.hid (fun W => choose_any q W hn.1 hn.2)
  have HAD : Hid (∀ (M : Int) (W : World), 1 ≤ M → M ≤ 11 → Calls Tryd.prog 36 #[.int .i64 M] W fun e w' => e = .returned (.int .i64 (fibN (M.toNat - 1) : Int)) ∧ W = w') := fun M W h1 h11 => by
    have := added_any M.toNat W (by omega) (by omega)
    rw [Int.toNat_of_nonneg (by omega)] at this
    exact this
  generalize numP p 4 = K at *
  generalize padR p = P at *
  obtain ⟨q0, q1, q2, q3, q4, q5, q6, rfl⟩ := seven H7
  simp only [ints, List.map_cons, List.map_nil] at HRR HNU
  clear hd hr E e1
  obtain rfl | rfl | rfl | rfl | rfl : q = 3 ∨ q = 4 ∨ q = 5 ∨ q = 6 ∨ q = 7 := by omega
  all_goals
    clear hn
    simp only [show choN 3 = 1 from rfl, show choN 4 = 4 from rfl, show choN 5 = 10 from rfl, show choN 6 = 20 from rfl, show choN 7 = 35 from rfl] at HCH
    obtain rfl | rfl | rfl | rfl | rfl | rfl := hk
    all_goals
      go_enter Tryd.func11, Tryd.ntmps11
      go_wp2_with fail
      refine HRR.out.mono ?_
      rintro e w1 ⟨rfl, hb1⟩
      obtain ⟨W2, r2, hx2, hg2, hs2⟩ := stR_run (Q := [q0, q1, q2, q3, q4, q5, q6]) (new_ring w1) rfl rfl
      have HB2 : Hid (Below w.heap.size w W2) := (hb1.alloc hb1.size _).grown hg2 (by have := hb1.size; simp; omega) (by have := hb1.size; simp; omega)
      have l2 := ldR_run hx2 rfl
      simp only [ints, List.map_cons, List.map_nil] at r2 l2
      clear hb1 hx2 hg2 hs2
      go_wp2_with (first
        | (go_at_call 24; refine (HSI.out _).mono ?_; rintro e w' ⟨rfl, rfl⟩)
        | (go_at_call 34; refine (HNU.out _).mono ?_; rintro e w3 ⟨rfl, hb3⟩
           have HB3 := Lib.hid (HB2.out.trans (hb3.mono HB2.out.size))
           clear hb3 l2 r2)
        | (go_at_call 36; refine (HAD.out _ _ (by omega) (by omega)).mono ?_; rintro e w4 ⟨rfl, rfl⟩))
      first
        | (go_quiet (refine Calls.quiet_of_same ((HCH.out _).mono fun e w' h => ⟨h.1, h.2.symm⟩))
           go_wp2
           go_ret2
           exact ⟨rfl, below_drewN HB3.out _⟩)
        | (go_ret2
           exact ⟨rfl, HB3.out⟩)
end Go.Proofs.YtmfilnpbkonfaaaDoor
