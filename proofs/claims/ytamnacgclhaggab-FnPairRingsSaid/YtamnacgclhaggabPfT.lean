/- PairFirst of the model and of the program. -/
import Derived.Test.YtamnacgclhaggabPrT
import Derived.Test.YtamnacgclhaggabCC
namespace Go.Proofs.Ytamnacgclhaggab
open Go.ChangeShapes Go.WideShapes Go.ChangeAt Go.RowKit

theorem growS_row {w : World} {B : Nat} {v : Value} {L : List (List Int)} (h : GrowS w B v L) {k : Nat} (hk : k < L.length) : ∃ g c A d, v = .slice (some ⟨g, 0, none⟩) L.length c ∧ w.cell? ⟨g, k, none⟩ = some (.slice A (rowK L k).length d) ∧ RowV w B (.slice A (rowK L k).length d) (rowK L k) := by
  obtain ⟨xs, h1, h2⟩ := h
  obtain ⟨vk, h3, h4⟩ := h2 k hk
  obtain ⟨A, d, rfl, _⟩ := h4.2
  rcases h1.2 with ⟨_, h0⟩ | ⟨g, cap, cur, rfl, hB, hg, hc, hm, hs, ht⟩
  · omega
  · refine ⟨g, cap, A, d, rfl, ?_, h4⟩
    rw [cell_of_row w g _ cur _ _ hg]
    rw [← ht, List.getElem?_take, if_pos (by omega)] at h3
    simpa using h3
def pfB (n : Int) (L : List (List Int)) : Bool := schB n L && decide (0 < (prL n.toNat L).length)
def pfR (n : Int) (L : List (List Int)) : List Int := if schB n L then rowK (prL n.toNat L) 0 else []
theorem prL_is (n : Nat) (L : List (List Int)) (h4 : 4 ≤ n) (h6 : n ≤ 6) : ∀ l ∈ prL n L, IsR n l := fun l hl => ringsL_is n (by omega) h6 l (List.mem_filter.1 hl).1
theorem prL_len (n : Nat) (L : List (List Int)) (h4 : 4 ≤ n) (h6 : n ≤ 6) : (prL n L).length ≤ 720 := by
  have h1 := List.length_filter_le (fun l => L.all (partB l)) (ringsL n)
  rw [ringsL_length] at h1
  have := (facM_eq n (by omega) h6).2.1
  unfold prL; omega
theorem pfR_length (n : Int) (L : List (List Int)) : (pfR n L).length ≤ 7 := by
  unfold pfR
  split
  · rename_i h
    obtain ⟨h4, h6, _, _⟩ := sch_yes h
    rcases Nat.lt_or_ge 0 (prL n.toNat L).length with h0 | h0
    · have := prL_is n.toNat L (by omega) (by omega) _ (rowK_mem h0)
      rw [this.1]; omega
    · have : prL n.toNat L = [] := List.eq_nil_of_length_eq_zero (by omega)
      rw [this]; simp [rowK]
  · simp

set_option maxHeartbeats 1000000 in
theorem pfS_any (A : Option Addr) (m c H : Nat) (n : Int) (L : List (List Int)) (w : World) (h : RdS w H A m L) (hH : H ≤ w.heap.size) (hn : tot L ≤ 1048576) :
    Calls Try.prog 27 #[.int .i64 n, .slice A m c] w fun e w' => ∃ v, e = .returned (.tuple #[v, .bool (pfB n L)]) ∧ OwnG w' w.heap.size v (pfR n L) ∧ Below w.heap.size w w' := by
  have HL := h.len
  have HS := Lib.hid (scS_any A m c H L n w h (by unfold tot at hn; omega))
  unfold pfB pfR
  cases hb : schB n L with
  | false =>
    rw [hb] at HS
    simp only [Bool.false_and, Bool.false_eq_true, if_false]
    clear hb h hn
    go_enter Try.func27, Try.ntmps27
    go_wp2_with (go_at_call 63; refine HS.out.mono ?_; rintro e w' ⟨rfl, rfl⟩)
    refine (none_any _).mono ?_
    rintro e w3 ⟨v3, rfl, ho3, hb3⟩
    have HO := Lib.hid ho3.gen
    have HB := Lib.hid hb3
    clear ho3 hb3
    go_wp2
    go_ret2
    exact ⟨_, rfl, HO.out, HB.out⟩
  | true =>
    obtain ⟨h4, h6, h20, hF⟩ := sch_yes hb
    obtain ⟨N, rfl⟩ : ∃ N : Nat, n = (N : Int) := ⟨n.toNat, by omega⟩
    have HR := Lib.hid (l3Rings_any A m c H N L w h hH (by omega) (by omega) (by omega) hF)
    rw [hb] at HS
    have e : (N : Int).toNat = N := by simp
    rw [e]
    simp only [Bool.true_and, if_true]
    clear hb h hn hF e h20
    obtain ⟨R, hR⟩ : ∃ R, R = prL N L := ⟨_, rfl⟩
    rw [← hR] at HR ⊢
    clear hR
    go_enter Try.func27, Try.ntmps27
    go_wp2_with (go_at_call 63; refine HS.out.mono ?_; rintro e w' ⟨rfl, rfl⟩)
    refine HR.out.mono ?_
    rintro e w2 ⟨v, rfl, hg2, hb2⟩
    have HB2 := Lib.hid hb2
    by_cases h0 : 0 < R.length
    · obtain ⟨g, c', A', d', rfl, hc, hrow⟩ := growS_row hg2 h0
      have HD : Hid (decide (0 < R.length) = true) := by simpa [Hid] using h0
      have HROW := Lib.hid hrow.1
      obtain ⟨z, hz⟩ : ∃ z, z = R.length := ⟨_, rfl⟩
      rw [← hz] at h0 ⊢
      clear hg2 hrow hb2 HR HS hz
      have he' : ((z : Int) == 0) = false := by simp; omega
      go_wp2
      go_ret2
      exact ⟨.slice A' (rowK R 0).length d', by rw [HD.out]; rfl, HROW.out, HB2.out⟩
    · have hz : R.length = 0 := by omega
      have HD : Hid (decide (0 < R.length) = false) := by simpa [Hid] using h0
      have HE : Hid (rowK R 0 = []) := by rw [List.eq_nil_of_length_eq_zero hz]; rfl
      obtain ⟨A', d', rfl, _⟩ := hg2.slice
      rw [hz]
      clear hg2 hb2 HR HS hz
      go_wp2_with fail
      refine (none_any _).mono ?_
      rintro e w3 ⟨v3, rfl, ho3, hb3⟩
      have HO := Lib.hid (ownG_dn ho3.gen HB2.out.size)
      have HB3 := Lib.hid (HB2.out.trans (hb3.mono HB2.out.size))
      clear ho3 hb3
      go_wp2
      go_ret2
      exact ⟨v3, by rw [HD.out]; rfl, by rw [HE.out]; exact HO.out, HB3.out⟩

set_option maxHeartbeats 1000000 in
theorem pfI_any (A : Option Addr) (m c H : Nat) (n : Int) (L : List (List Int)) (w : World) (h : RdS w H A m L) (hH : H ≤ w.heap.size) (_ : tot L ≤ 1048576) :
    Calls Try.prog 25 #[.int .i64 n, .slice A m c] w fun e w' => ∃ v, e = .returned (.tuple #[v, .bool (pfB n L)]) ∧ OwnG w' w.heap.size v (pfR n L) ∧ Below w.heap.size w w' := by
  have HS := Lib.hid (readScheme_any A m c H L n w h hH)
  have hnil : ∀ w' : World, OwnG w' w.heap.size (.slice none 0 0) [] := fun _ => .inl ⟨rfl, rfl⟩
  have HNIL := Lib.hid hnil
  clear hnil
  clear h
  unfold pfB pfR
  cases hb : schB n L with
  | false =>
    rw [hb] at HS
    simp only [Bool.false_and, Bool.false_eq_true, if_false]
    clear hb
    go_enter Try.func25, Try.ntmps25
    go_wp2_with fail
    refine HS.out.mono ?_
    rintro e w1 ⟨f, rfl, _, hb⟩
    have HB := Lib.hid hb
    clear hb
    go_wp2
    go_ret2
    exact ⟨_, rfl, HNIL.out _, HB.out⟩
  | true =>
    obtain ⟨h4, h6, h20, hF⟩ := sch_yes hb
    obtain ⟨N, rfl⟩ : ∃ N : Nat, n = (N : Int) := ⟨n.toNat, by omega⟩
    obtain ⟨M, hM⟩ := lift_par N L hF
    rw [hb] at HS
    have e : (N : Int).toNat = N := by simp
    rw [e]
    simp only [Bool.true_and, if_true]
    have hl : M.length ≤ 20 := by rw [← hM, List.length_map] at h20; exact h20
    have HPR := Lib.hid (fun vb B0 v W => parted_any N (by omega) (by omega) M hl vb B0 v W)
    rw [hM] at HPR
    have HIS := Lib.hid (prL_is N L (by omega) (by omega))
    have HLN := Lib.hid (prL_len N L (by omega) (by omega))
    clear hb hF e h20 hM hl
    obtain ⟨R, hR⟩ : ∃ R, R = prL N L := ⟨_, rfl⟩
    rw [← hR] at HPR HIS HLN ⊢
    clear hR
    go_enter Try.func25, Try.ntmps25
    go_wp2_with fail
    refine HS.out.mono ?_
    rintro e w1 ⟨f, rfl, hf, hb⟩
    obtain ⟨g, v, rfl, _, hg, hc, hrow, _⟩ := hf trivial
    have HC := Lib.hid (HPR.out g w.heap.size v w1 hg hc hrow (fun i hi => (hrow.lt i hi).2))
    have HB := Lib.hid hb
    clear hb hf hc hrow hg HPR HS
    go_wp2_with fail
    refine HC.out.mono ?_
    rintro e w2 ⟨u, rfl, hr, hb2⟩
    have HB2 := Lib.hid (HB.out.trans (hb2.mono HB.out.size))
    have HF := Lib.hid (firstList_any u w1.heap.size R w2 hr (by have := HLN.out; omega) (fun l hl => by
      have hI := HIS.out l hl
      exact ⟨by rw [hI.1]; omega, by rw [hI.1]; omega, hI.2.1⟩))
    clear hr hb2 HC
    go_wp2_with fail
    refine HF.out.mono ?_
    rintro e w3 ⟨v3, rfl, ho3, hb3⟩
    have HO3 := Lib.hid (show OwnG w3 w.heap.size v3 (rowK R 0) from (ownG_dn ho3 HB2.out.size))
    have HB3 := Lib.hid (HB2.out.trans (hb3.mono HB2.out.size))
    clear ho3 hb3 HF
    go_wp2
    go_ret2
    exact ⟨v3, rfl, HO3.out, HB3.out⟩
end Go.Proofs.Ytamnacgclhaggab
