/- PairAll of the model. -/
import Derived.Test.YtamnacgclhaggabPlI
import Derived.Test.YtamnacgclhaggabPE
namespace Go.Proofs.Ytamnacgclhaggab
open Go.ChangeShapes Go.WideShapes Go.ChangeAt Go.RowKit

theorem sumTo_four (L : List (List Int)) (h : ∀ l ∈ L, l.length = 4) : ∀ k, k ≤ L.length → sumTo L k ≤ 4 * k
  | 0, _ => by simp [sumTo]
  | k + 1, hk => by
    have h1 := sumTo_four L h k (by omega)
    have h2 : (rowK L k).length = 4 := h _ (rowK_mem (by omega))
    simp only [sumTo]
    omega
theorem paR_tot (l : List Int) : tot (paR l) ≤ 1048576 := by
  by_cases hr : Ring l
  · rw [pa_yes hr]
    have h1 := allP_len l hr.1.2.1
    have h2 := sumTo_four (allP l) (allP_row l) _ (Nat.le_refl _)
    unfold tot; omega
  · rw [pa_no hr]; simp [tot, sumTo]

set_option maxHeartbeats 1000000 in
theorem paS_any (A : Option Addr) (n c H : Nat) (l : List Int) (w : World) (h : Rd w H A n l) (hH : H ≤ w.heap.size) (hn : n ≤ 1048576) :
    Calls Try.prog 14 #[.slice A n c] w fun e w' => ∃ v, e = .returned (.tuple #[v, .bool (ringB l)]) ∧ (∃ A c, v = .slice A (paR l).length c ∧ RdS w' w'.heap.size A (paR l).length (paR l)) ∧ Below w.heap.size w w' := by
  have HR := Lib.hid (ringS_any A n c H l w h hn)
  by_cases hr : Ring l
  · have HA := Lib.hid (l3All_any A n c H l w h hH hr.1)
    rw [pa_yes hr, ring_yes hr]
    rw [ring_yes hr] at HR
    clear hr h
    obtain ⟨L, hL⟩ : ∃ L, L = allP l := ⟨_, rfl⟩
    rw [← hL] at HA ⊢
    clear hL
    go_enter Try.func14, Try.ntmps14
    go_wp2_with (go_at_call 52; refine HR.out.mono ?_; rintro e w' ⟨rfl, rfl⟩)
    refine HA.out.mono ?_
    rintro e w2 ⟨v, rfl, hg, hb⟩
    obtain ⟨A2, c2, e, _, _⟩ := hg.slice
    subst e
    have HB := Lib.hid hb
    have HG := Lib.hid hg.rd.2
    clear hg hb HA
    go_wp2
    go_ret2
    exact ⟨_, rfl, ⟨A2, c2, rfl, HG.out⟩, HB.out⟩
  · rw [pa_no hr, ring_no hr]
    rw [ring_no hr] at HR
    clear hr h
    have hb : Below w.heap.size w (w.alloc (.cells #[] 23)) := (Below.refl _ _).alloc (Nat.le_refl _) _
    have HB := Lib.hid hb
    clear hb
    go_enter Try.func14, Try.ntmps14
    go_wp2_with (go_at_call 52; refine HR.out.mono ?_; rintro e w' ⟨rfl, rfl⟩)
    go_ret2
    exact ⟨_, rfl, ⟨_, _, rfl, rfl, fun h => absurd h (by simp)⟩, HB.out⟩
end Go.Proofs.Ytamnacgclhaggab
