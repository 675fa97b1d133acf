/- PairRings of the model and of the program. -/
import Derived.Test.YtamnacgclhaggabPrS
namespace Go.Proofs.Ytamnacgclhaggab
open Go.ChangeShapes Go.WideShapes Go.ChangeAt Go.RowKit

theorem lift_par (n : Nat) : ∀ L : List (List Int), (∀ l ∈ L, Four (n : Int) l) → ∃ M : List (ParN n), M.map (·.1) = L
  | [], _ => ⟨[], rfl⟩
  | l :: L, h => by
    obtain ⟨M, hM⟩ := lift_par n L (fun x hx => h x (by simp [hx]))
    exact ⟨⟨l, h l (by simp)⟩ :: M, by simp [hM]⟩
def prV (n : Int) (L : List (List Int)) : Int := if schB n L then ((prL n.toNat L).length : Nat) else 0

set_option maxHeartbeats 1000000 in
theorem prS_any (A : Option Addr) (m c H : Nat) (n : Int) (L : List (List Int)) (w : World) (h : RdS w H A m L) (hH : H ≤ w.heap.size) (hn : tot L ≤ 1048576) :
    Calls Try.prog 24 #[.int .i64 n, .slice A m c] w fun e w' => e = .returned (.tuple #[.int .i64 (prV n L), .bool (schB n L)]) ∧ Below w.heap.size w w' := by
  have HL := h.len
  have HS := Lib.hid (scS_any A m c H L n w h (by unfold tot at hn; omega))
  unfold prV
  cases hb : schB n L with
  | false =>
    rw [hb] at HS
    clear hb h hn
    go_enter Try.func24, Try.ntmps24
    go_wp2_with (go_at_call 63; refine HS.out.mono ?_; rintro e w' ⟨rfl, rfl⟩)
    go_ret2
    exact ⟨rfl, Below.refl _ _⟩
  | true =>
    obtain ⟨h4, h6, h20, hF⟩ := sch_yes hb
    obtain ⟨N, rfl⟩ : ∃ N : Nat, n = (N : Int) := ⟨n.toNat, by omega⟩
    have HR := Lib.hid (l3Rings_any A m c H N L w h hH (by omega) (by omega) (by omega) hF)
    rw [hb] at HS
    have e : (N : Int).toNat = N := by simp
    rw [e]
    simp only [if_true]
    clear hb h hn hF e h20
    obtain ⟨R, hR⟩ : ∃ R, R = prL N L := ⟨_, rfl⟩
    rw [← hR] at HR ⊢
    clear hR
    go_enter Try.func24, Try.ntmps24
    go_wp2_with (go_at_call 63; refine HS.out.mono ?_; rintro e w' ⟨rfl, rfl⟩)
    refine HR.out.mono ?_
    rintro e w2 ⟨v, rfl, hg, hb⟩
    obtain ⟨A2, c2, e, _, _⟩ := hg.slice
    subst e
    have HB := Lib.hid hb
    clear hg hb HR
    go_wp2
    go_ret2
    exact ⟨rfl, HB.out⟩

set_option maxHeartbeats 1000000 in
theorem prI_any (A : Option Addr) (m c H : Nat) (n : Int) (L : List (List Int)) (w : World) (h : RdS w H A m L) (hH : H ≤ w.heap.size) (_ : tot L ≤ 1048576) :
    Calls Try.prog 23 #[.int .i64 n, .slice A m c] w fun e w' => e = .returned (.tuple #[.int .i64 (prV n L), .bool (schB n L)]) ∧ Below w.heap.size w w' := by
  have HS := Lib.hid (readScheme_any A m c H L n w h hH)
  clear h
  unfold prV
  cases hb : schB n L with
  | false =>
    rw [hb] at HS
    clear hb
    go_enter Try.func23, Try.ntmps23
    go_wp2_with fail
    refine HS.out.mono ?_
    rintro e w1 ⟨f, rfl, _, hb⟩
    have HB := Lib.hid hb
    clear hb
    go_wp2
    go_ret2
    exact ⟨rfl, HB.out⟩
  | true =>
    obtain ⟨h4, h6, h20, hF⟩ := sch_yes hb
    obtain ⟨N, rfl⟩ : ∃ N : Nat, n = (N : Int) := ⟨n.toNat, by omega⟩
    obtain ⟨M, hM⟩ := lift_par N L hF
    rw [hb] at HS
    have e : (N : Int).toNat = N := by simp
    rw [e]
    simp only [if_true]
    have hl : M.length ≤ 20 := by rw [← hM, List.length_map] at h20; exact h20
    have HPR := Lib.hid (fun vb B0 v W => parted_any N (by omega) (by omega) M hl vb B0 v W)
    rw [hM] at HPR
    clear hb hF e h20 hM hl
    obtain ⟨R, hR⟩ : ∃ R, R = prL N L := ⟨_, rfl⟩
    rw [← hR] at HPR ⊢
    clear hR
    go_enter Try.func23, Try.ntmps23
    go_wp2_with fail
    refine HS.out.mono ?_
    rintro e w1 ⟨f, rfl, hf, hb⟩
    obtain ⟨g, v, rfl, _, hg, hc, hrow, _⟩ := hf trivial
    have HC := Lib.hid (HPR.out g w.heap.size v w1 hg hc hrow (fun i hi => (hrow.lt i hi).2))
    have HB := Lib.hid hb
    clear hb hf hc hrow hg HPR HS
    go_wp2_with fail
    refine HC.out.mono ?_
    rintro e w2 ⟨u, rfl, hr, hb2⟩
    obtain ⟨A2, c2, e⟩ := hr.slice
    subst e
    have hpl : (padM R).length = R.length := by simp [padM]
    have HB2 := Lib.hid (HB.out.trans (hb2.mono HB.out.size))
    rw [hpl]
    clear hr hb2 HC hpl
    go_wp2
    go_ret2
    exact ⟨rfl, HB2.out⟩
end Go.Proofs.Ytamnacgclhaggab
