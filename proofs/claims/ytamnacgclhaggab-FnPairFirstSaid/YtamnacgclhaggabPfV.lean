/- PairFirst of the program, the capacity of what it gives told. -/
import Derived.Test.YtamnacgclhaggabPfT
import Derived.Test.YtamnacgclhaggabFirW
namespace Go.Proofs.Ytamnacgclhaggab
open Go.ChangeShapes Go.WideShapes Go.ChangeAt Go.RowKit

set_option maxHeartbeats 1000000 in
theorem pfIw_any (A : Option Addr) (m c H : Nat) (n : Int) (L : List (List Int)) (w : World) (h : RdS w H A m L) (hH : H ≤ w.heap.size) (_ : tot L ≤ 1048576) :
    Calls Try.prog 25 #[.int .i64 n, .slice A m c] w fun e w' => ∃ v, e = .returned (.tuple #[v, .bool (pfB n L)]) ∧ Own w' w.heap.size v (pfR n L) ∧ Below w.heap.size w w' := by
  have HS := Lib.hid (readScheme_any A m c H L n w h hH)
  have hnil : ∀ w' : World, Own w' w.heap.size (.slice none 0 0) [] := fun _ => ⟨rfl, .inl ⟨rfl, rfl⟩⟩
  have HNIL := Lib.hid hnil
  clear hnil
  clear h
  unfold pfB pfR
  cases hb : schB n L with
  | false =>
    rw [hb] at HS
    simp only [Bool.false_and, Bool.false_eq_true, if_false]
    clear hb
    go_enter Try.func25, Try.ntmps25
    go_wp2_with fail
    refine HS.out.mono ?_
    rintro e w1 ⟨f, rfl, _, hb⟩
    have HB := Lib.hid hb
    clear hb
    go_wp2
    go_ret2
    exact ⟨_, rfl, HNIL.out _, HB.out⟩
  | true =>
    obtain ⟨h4, h6, h20, hF⟩ := sch_yes hb
    obtain ⟨N, rfl⟩ : ∃ N : Nat, n = (N : Int) := ⟨n.toNat, by omega⟩
    obtain ⟨M, hM⟩ := lift_par N L hF
    rw [hb] at HS
    have e : (N : Int).toNat = N := by simp
    rw [e]
    simp only [Bool.true_and, if_true]
    have hl : M.length ≤ 20 := by rw [← hM, List.length_map] at h20; exact h20
    have HPR := Lib.hid (fun vb B0 v W => parted_any N (by omega) (by omega) M hl vb B0 v W)
    rw [hM] at HPR
    have HIS := Lib.hid (prL_is N L (by omega) (by omega))
    have HLN := Lib.hid (prL_len N L (by omega) (by omega))
    clear hb hF e h20 hM hl
    obtain ⟨R, hR⟩ : ∃ R, R = prL N L := ⟨_, rfl⟩
    rw [← hR] at HPR HIS HLN ⊢
    clear hR
    go_enter Try.func25, Try.ntmps25
    go_wp2_with fail
    refine HS.out.mono ?_
    rintro e w1 ⟨f, rfl, hf, hb⟩
    obtain ⟨g, v, rfl, _, hg, hc, hrow, _⟩ := hf trivial
    have HC := Lib.hid (HPR.out g w.heap.size v w1 hg hc hrow (fun i hi => (hrow.lt i hi).2))
    have HB := Lib.hid hb
    clear hb hf hc hrow hg HPR HS
    go_wp2_with fail
    refine HC.out.mono ?_
    rintro e w2 ⟨u, rfl, hr, hb2⟩
    have HB2 := Lib.hid (HB.out.trans (hb2.mono HB.out.size))
    have HF := Lib.hid (firstListW_any u w1.heap.size R w2 hr (by have := HLN.out; omega) (fun l hl => by
      have hI := HIS.out l hl
      exact ⟨by rw [hI.1]; omega, by rw [hI.1]; omega, hI.2.1⟩))
    clear hr hb2 HC
    go_wp2_with fail
    refine HF.out.mono ?_
    rintro e w3 ⟨v3, rfl, ho3, hb3⟩
    have HO3 := Lib.hid (show Own w3 w.heap.size v3 (rowK R 0) from (own_less ho3 HB2.out.size))
    have HB3 := Lib.hid (HB2.out.trans (hb3.mono HB2.out.size))
    clear ho3 hb3 HF
    go_wp2
    go_ret2
    exact ⟨v3, rfl, HO3.out, HB3.out⟩
end Go.Proofs.Ytamnacgclhaggab
