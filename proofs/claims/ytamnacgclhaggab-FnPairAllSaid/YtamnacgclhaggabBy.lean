/- RingBy of the model and of the program. -/
import Derived.Test.YtamnacgclhaggabPR
import Derived.Test.YtamnacgclhaggabMA
namespace Go.Proofs.Ytamnacgclhaggab
open Go.ChangeShapes Go.WideShapes Go.ChangeAt Go.RowKit

theorem byIm_any (n k : Int) (w : World) :
    Calls Try.prog 19 #[.int .i64 n, .int .i64 k] w fun e w' => ∃ v, e = .returned (.tuple #[v, .bool (byB n k)]) ∧ Own w' w.heap.size v (byR n k) ∧ Below w.heap.size w w' := by
  have hc := fun W => Lib.hid (countI_any n W)
  by_cases hn : 3 ≤ n ∧ n ≤ 7
  · obtain ⟨n', rfl⟩ : ∃ n' : Nat, n = n' := ⟨n.toNat, by omega⟩
    obtain ⟨h3, h7⟩ := hn
    have hb1 : (decide ((3 : Int) ≤ (n' : Int)) && decide ((n' : Int) ≤ 7)) = true := by simp; omega
    have hrc : rcount n' = facN (n' - 1) := by unfold rcount; rw [if_pos ⟨h3, h7⟩, Int.toNat_natCast]
    rw [hb1, hrc] at hc
    have hfb := facN_bd (n' - 1)
    obtain ⟨f, hf⟩ : ∃ f, f = facN (n' - 1) := ⟨_, rfl⟩
    rw [← hf] at hfb hc
    obtain ⟨hf1, hf2⟩ := hfb
    have HC := Lib.hid hc
    have hbb : byB n' k = decide (0 ≤ k ∧ k < f) := by
      unfold byB
      rw [Int.toNat_natCast, ← hf, decide_eq_decide]
      omega
    unfold byR
    rw [hbb]
    by_cases hk0 : 0 ≤ k
    · by_cases hk1 : k < f
      · have hb2 : decide (0 ≤ k ∧ k < f) = true := by simp; omega
        have hkn : k < facN n' := by
          have e := facN_succ (n' - 1) (by omega)
          rw [show n' - 1 + 1 = n' by omega, ← hf] at e
          rw [e]
          have : 1 * f ≤ (n' : Int) * f := Int.mul_le_mul_of_nonneg_right (by omega) (by omega)
          omega
        have hB := fun W => Lib.hid (numbered_any n' k W (by omega) (by omega) hk0 hkn)
        have hL := fun W => Lib.hid (list_any (byL n' k) W (by rw [byL_length]; omega) (by rw [byL_length]; omega) (byL_pos n' k (by omega) hk0 hkn))
        have HB := Lib.hid hB
        have HLI := Lib.hid hL
        rw [hb2, if_pos rfl, Int.toNat_natCast]
        unfold agp at HB HLI
        clear hbb hf hB hL hkn hc hrc hb1
        generalize byL n' k = r at *
        generalize padR r = Q at *
        go_enter Try.func19, Try.ntmps19
        go_wp2_with (go_at_call 18; refine ((HC.out _).out).mono ?_; rintro e w' ⟨rfl, rfl⟩)
        refine ((HB.out _).out).mono ?_
        rintro e w1 ⟨rfl, hb⟩
        have HB1 := Lib.hid hb
        have hs := hb.size
        clear hb
        go_wp2_with fail
        refine ((HLI.out _).out).mono ?_
        rintro e w2 ⟨v, rfl, ho, hb⟩
        have HO := Lib.hid (own_less ho hs)
        have HB2 := Lib.hid (HB1.out.trans (hb.mono hs))
        clear ho hb
        go_wp2
        go_ret2
        exact ⟨_, rfl, HO.out, HB2.out⟩
      · have hb2 : decide (0 ≤ k ∧ k < f) = false := by simp; omega
        rw [hb2, if_neg (by simp)]
        clear hbb hf hc hrc hb1
        go_enter Try.func19, Try.ntmps19
        go_wp2_with (go_at_call 18; refine ((HC.out _).out).mono ?_; rintro e w' ⟨rfl, rfl⟩)
        go_ret2
        exact ⟨_, rfl, World.ownsRow_nil _ _ _ _, Below.refl _ _⟩
    · have hb2 : decide (0 ≤ k ∧ k < f) = false := by simp; omega
      rw [hb2, if_neg (by simp)]
      clear hbb hf hc hrc hb1
      go_enter Try.func19, Try.ntmps19
      go_wp2_with (go_at_call 18; refine ((HC.out _).out).mono ?_; rintro e w' ⟨rfl, rfl⟩)
      go_ret2
      exact ⟨_, rfl, World.ownsRow_nil _ _ _ _, Below.refl _ _⟩
  · have hb1 : (decide ((3 : Int) ≤ n) && decide (n ≤ 7)) = false := by simp; omega
    have hbb : byB n k = false := by
      unfold byB
      rw [decide_eq_false_iff_not]
      omega
    rw [hb1] at hc
    have HC := Lib.hid hc
    unfold byR
    rw [hbb, if_neg (by simp)]
    clear hbb hn hc hb1
    generalize rcount n = z at *
    go_enter Try.func19, Try.ntmps19
    go_wp2_with (go_at_call 18; refine ((HC.out _).out).mono ?_; rintro e w' ⟨rfl, rfl⟩)
    go_ret2
    exact ⟨_, rfl, World.ownsRow_nil _ _ _ _, Below.refl _ _⟩
end Go.Proofs.Ytamnacgclhaggab
