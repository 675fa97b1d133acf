/- ThreeRings and ThreeFirst of the model and of the program. -/
import Derived.Test.YtnepagdfhoefpabAgree
import Derived.Test.YtnepagdfhoefpabFirst
namespace Go.Proofs.Ytnepagdfhoefpab
open Go.ChangeShapes Go.WideShapes Go.ChangeAt Go.RowKit

def rgR (q : Int) (L : List (List Int)) : Int := if Tel q L then ((agreeL q.toNat L).length : Nat) else 0
def fsR (q : Int) (L : List (List Int)) : List Int := if Tel q L then rowK (agreeL q.toNat L) 0 else []
def fsB (q : Int) (L : List (List Int)) : Bool := if Tel q L then decide (0 < (agreeL q.toNat L).length) else false
theorem agreeL_is (n : Nat) (L : List (List Int)) (h3 : 3 ≤ n) (h6 : n ≤ 6) : ∀ l ∈ agreeL n L, IsR n l := fun l hl => ringsL_is n h3 h6 l (List.mem_filter.1 hl).1
theorem fsR_length (q : Int) (L : List (List Int)) : (fsR q L).length ≤ 7 := by
  unfold fsR
  split
  · rename_i ht
    rcases Nat.eq_zero_or_pos (agreeL q.toNat L).length with h0 | h0
    · rw [List.eq_nil_of_length_eq_zero h0]; simp [rowK]
    · have := (agreeL_is q.toNat L (by have := ht.1; omega) (by have := ht.2.1; omega) _ (rowK_mem h0)).1
      have := ht.2.1
      omega
  · simp
theorem tel_nat {q : Int} {L : List (List Int)} (ht : Tel q L) : ∃ k : Nat, q = k ∧ 3 ≤ k ∧ k ≤ 6 := ⟨q.toNat, by have := ht.1; omega, by have := ht.1; omega, by have := ht.2.1; omega⟩

set_option maxHeartbeats 1000000 in
theorem trS_any (A : Option Addr) (n c H : Nat) (q : Int) (L : List (List Int)) (w : World) (h : RdS w H A n L) (hH : H ≤ w.heap.size) (hn : tot L ≤ 1048576) :
    Calls Try.prog 36 #[.int .i64 q, .slice A n c] w fun e w' => e = .returned (.tuple #[.int .i64 (rgR q L), .bool (tel q L)]) ∧ Below w.heap.size w w' := by
  have hl := h.len
  have HC := Lib.hid (telS_any A n c H L q w h (by unfold tot at hn; omega))
  by_cases ht : Tel q L
  · obtain ⟨k, rfl, h3, h6⟩ := tel_nat ht
    have HTY := Lib.hid (tel_yes ht).1
    have HG := Lib.hid (fun p => l2Rings_any A n c H k L (w.drewN p) (h.drewN p) hH h3 h6 (by have := ht.2.2.1; omega) ht.2.2.2)
    have HR : Hid (rgR (k : Int) L = ((agreeL k L).length : Nat)) := by rw [Hid, rgR, if_pos ht, Int.toNat_natCast]
    rw [(tel_yes ht).1] at HC
    rw [HR.out, HTY.out]
    clear h hl ht
    go_enter Try.func36, Try.ntmps36
    go_wp2_with fail
    refine HC.out.mono ?_
    rintro e w1 ⟨rfl, p, rfl⟩
    go_wp2_with fail
    refine (HG.out p).mono ?_
    rintro e w2 ⟨v, rfl, hg2, hb2⟩
    obtain ⟨A2, c2, rfl, _⟩ := hg2.slice
    clear hg2
    go_wp2
    go_ret2
    exact ⟨rfl, (below_drewN (Below.refl _ _) p).trans hb2⟩
  · have HTY := Lib.hid (tel_no ht).1
    have HR : Hid (rgR q L = 0) := by rw [Hid, rgR, if_neg ht]
    rw [(tel_no ht).1] at HC
    rw [HR.out, HTY.out]
    clear h hl ht
    go_enter Try.func36, Try.ntmps36
    go_wp2_with (go_at_call 29; refine HC.out.mono ?_; rintro e w1 ⟨rfl, p, rfl⟩)
    go_ret2
    exact ⟨rfl, below_drewN (Below.refl _ _) p⟩

set_option maxHeartbeats 1000000 in
theorem trI_any (A : Option Addr) (n c H : Nat) (q : Int) (L : List (List Int)) (w : World) (h : RdS w H A n L) (hH : H ≤ w.heap.size) (_ : tot L ≤ 1048576) :
    Calls Try.prog 37 #[.int .i64 q, .slice A n c] w fun e w' => e = .returned (.tuple #[.int .i64 (rgR q L), .bool (tel q L)]) ∧ Below w.heap.size w w' := by
  have HC := Lib.hid (readThrees_any A n c H L q w h hH)
  by_cases ht : Tel q L
  · obtain ⟨k, rfl, h3, h6⟩ := tel_nat ht
    have HTY := Lib.hid (tel_yes ht).1
    have HT := Lib.hid ht
    have HR : Hid (rgR (k : Int) L = ((agreeL k L).length : Nat)) := by rw [Hid, rgR, if_pos ht, Int.toNat_natCast]
    rw [(tel_yes ht).1, (tel_yes ht).2] at HC
    rw [HR.out, HTY.out]
    clear h hH ht
    go_enter Try.func37, Try.ntmps37
    go_wp2_with fail
    refine HC.out.mono ?_
    rintro e w1 ⟨v1, rfl, hr1, hb1⟩
    have HG := Lib.hid (agreeing_any k v1 w.heap.size L w1 hr1 h3 h6 (by have := HT.out.2.2.1; omega) HT.out.2.2.2)
    clear hr1 HC
    go_wp2_with fail
    refine HG.out.mono ?_
    rintro e w2 ⟨v2, rfl, hr2, hb2⟩
    obtain ⟨A2, c2, rfl⟩ := hr2.slice
    have hlen : Hid ((padM (agreeL k L)).length = (agreeL k L).length) := by simp [Hid, padM]
    rw [hlen.out]
    clear hr2
    go_wp2
    go_ret2
    exact ⟨rfl, hb1.trans (hb2.mono hb1.size)⟩
  · have HTY := Lib.hid (tel_no ht).1
    have HR : Hid (rgR q L = 0) := by rw [Hid, rgR, if_neg ht]
    rw [(tel_no ht).1] at HC
    rw [HR.out, HTY.out]
    clear h hH ht
    go_enter Try.func37, Try.ntmps37
    go_wp2_with (go_at_call 65; refine HC.out.mono ?_; rintro e w1 ⟨v1, rfl, _, hb1⟩)
    go_ret2
    exact ⟨rfl, hb1⟩

theorem GrowS.row {w : World} {B : Nat} {v : Value} {L : List (List Int)} (h : GrowS w B v L) {k : Nat} (hk : k < L.length) : ∃ g c A d, v = .slice (some ⟨g, 0, none⟩) L.length c ∧ w.cell? ⟨g, k, none⟩ = some (.slice A (rowK L k).length d) ∧ RowV w B (.slice A (rowK L k).length d) (rowK L k) := by
  obtain ⟨xs, h1, h2⟩ := h
  obtain ⟨vk, h3, h4⟩ := h2 k hk
  obtain ⟨A, d, rfl, _⟩ := h4.2
  rcases h1.2 with ⟨_, h0⟩ | ⟨g, cap, cur, rfl, hB, hg, hc, hm, hs, ht⟩
  · omega
  · refine ⟨g, cap, A, d, rfl, ?_, h4⟩
    rw [cell_of_row w g _ cur _ _ hg]
    rw [← ht, List.getElem?_take, if_pos (by omega)] at h3
    simpa using h3

set_option maxHeartbeats 1000000 in
theorem fsS_any (A : Option Addr) (n c H : Nat) (q : Int) (L : List (List Int)) (w : World) (h : RdS w H A n L) (hH : H ≤ w.heap.size) (hn : tot L ≤ 1048576) :
    Calls Try.prog 38 #[.int .i64 q, .slice A n c] w fun e w' => ∃ v, e = .returned (.tuple #[v, .bool (fsB q L)]) ∧ OwnG w' w.heap.size v (fsR q L) ∧ Below w.heap.size w w' := by
  have hl := h.len
  have HC := Lib.hid (telS_any A n c H L q w h (by unfold tot at hn; omega))
  by_cases ht : Tel q L
  · obtain ⟨k, rfl, h3, h6⟩ := tel_nat ht
    have HG := Lib.hid (fun p => l2Rings_any A n c H k L (w.drewN p) (h.drewN p) hH h3 h6 (by have := ht.2.2.1; omega) ht.2.2.2)
    have HR : Hid (fsR (k : Int) L = rowK (agreeL k L) 0 ∧ fsB (k : Int) L = decide (0 < (agreeL k L).length)) := ⟨by rw [fsR, if_pos ht, Int.toNat_natCast], by rw [fsB, if_pos ht, Int.toNat_natCast]⟩
    rw [(tel_yes ht).1] at HC
    rw [HR.out.1, HR.out.2]
    clear h hl ht
    go_enter Try.func38, Try.ntmps38
    go_wp2_with fail
    refine HC.out.mono ?_
    rintro e w1 ⟨rfl, p, rfl⟩
    go_wp2_with fail
    refine (HG.out p).mono ?_
    rintro e w2 ⟨v, rfl, hg2, hb2⟩
    have HB2 := Lib.hid ((below_drewN (Below.refl _ _) p).trans hb2)
    by_cases h0 : 0 < (agreeL k L).length
    · obtain ⟨g, c', A', d', rfl, hc, hrow⟩ := hg2.row h0
      have HD : Hid (decide (0 < (agreeL k L).length) = true) := by simpa [Hid] using h0
      have HROW := Lib.hid hrow.1
      obtain ⟨z, hz⟩ : ∃ z, z = (agreeL k L).length := ⟨_, rfl⟩
      rw [← hz] at h0 ⊢
      clear hg2 hrow hb2 HG HC HR hz
      have he' : ((z : Int) == 0) = false := by simp; omega
      go_wp2
      go_ret2
      exact ⟨.slice A' (rowK (agreeL k L) 0).length d', by rw [HD.out]; rfl, HROW.out, HB2.out⟩
    · have hz : (agreeL k L).length = 0 := by omega
      have HD : Hid (decide (0 < (agreeL k L).length) = false) := by simpa [Hid] using h0
      have HE : Hid (rowK (agreeL k L) 0 = []) := by rw [List.eq_nil_of_length_eq_zero hz]; rfl
      obtain ⟨A', d', rfl, _⟩ := hg2.slice
      rw [hz]
      clear hg2 hb2 HG HC HR hz
      go_wp2_with fail
      refine (none_any _).mono ?_
      rintro e w3 ⟨v3, rfl, ho3, hb3⟩
      go_wp2
      go_ret2
      exact ⟨v3, by rw [HD.out]; rfl, by rw [HE.out]; exact (own_less ho3 HB2.out.size).gen, HB2.out.trans (hb3.mono HB2.out.size)⟩
  · have HR : Hid (fsR q L = [] ∧ fsB q L = false) := ⟨by rw [fsR, if_neg ht], by rw [fsB, if_neg ht]⟩
    rw [(tel_no ht).1] at HC
    rw [HR.out.1, HR.out.2]
    clear h hl ht
    go_enter Try.func38, Try.ntmps38
    go_wp2_with fail
    refine HC.out.mono ?_
    rintro e w1 ⟨rfl, p, rfl⟩
    go_wp2_with fail
    refine (none_any _).mono ?_
    rintro e w3 ⟨v3, rfl, ho3, hb3⟩
    go_wp2
    go_ret2
    exact ⟨_, rfl, ho3.gen, (below_drewN (Below.refl _ _) p).trans hb3⟩

set_option maxRecDepth 10000 in
set_option maxHeartbeats 1000000 in
theorem fsI_any (A : Option Addr) (n c H : Nat) (q : Int) (L : List (List Int)) (w : World) (h : RdS w H A n L) (hH : H ≤ w.heap.size) (_ : tot L ≤ 1048576) :
    Calls Try.prog 39 #[.int .i64 q, .slice A n c] w fun e w' => ∃ v, e = .returned (.tuple #[v, .bool (fsB q L)]) ∧ OwnG w' w.heap.size v (fsR q L) ∧ Below w.heap.size w w' := by
  have HC := Lib.hid (readThrees_any A n c H L q w h hH)
  have hnil : ∀ w' : World, OwnG w' w.heap.size (.slice none 0 0) [] := fun _ => .inl ⟨rfl, rfl⟩
  have HNIL := Lib.hid hnil
  clear hnil
  by_cases ht : Tel q L
  · obtain ⟨k, rfl, h3, h6⟩ := tel_nat ht
    have HT := Lib.hid ht
    have HR : Hid (fsR (k : Int) L = rowK (agreeL k L) 0 ∧ fsB (k : Int) L = decide (0 < (agreeL k L).length)) := ⟨by rw [fsR, if_pos ht, Int.toNat_natCast], by rw [fsB, if_pos ht, Int.toNat_natCast]⟩
    rw [(tel_yes ht).1, (tel_yes ht).2] at HC
    rw [HR.out.1, HR.out.2]
    clear h hH ht
    go_enter Try.func39, Try.ntmps39
    go_wp2_with fail
    refine HC.out.mono ?_
    rintro e w1 ⟨v1, rfl, hr1, hb1⟩
    have HG := Lib.hid (agreeing_any k v1 w.heap.size L w1 hr1 h3 h6 (by have := HT.out.2.2.1; omega) HT.out.2.2.2)
    clear hr1 HC
    go_wp2_with fail
    refine HG.out.mono ?_
    rintro e w2 ⟨v2, rfl, hr2, hb2⟩
    have HB2 := Lib.hid (hb1.trans (hb2.mono hb1.size))
    have HF := Lib.hid (firstList_any v2 w1.heap.size (agreeL k L) w2 hr2 (by have := agreeL_len k L h3 h6; omega) (fun l hl => by
      have hI := agreeL_is k L h3 h6 l hl
      exact ⟨by rw [hI.1]; omega, by rw [hI.1]; omega, hI.2.1⟩))
    clear hr2 hb1 hb2 HG HR
    go_wp2_with fail
    refine HF.out.mono ?_
    rintro e w3 ⟨v3, rfl, ho3, hb3⟩
    have HO3 := Lib.hid (show OwnG w3 w.heap.size v3 (rowK (agreeL k L) 0) from (ownG_dn ho3 HB2.out.size))
    have HB3 := Lib.hid (HB2.out.trans (hb3.mono HB2.out.size))
    clear ho3 hb3 HF
    go_wp2
    go_ret2
    exact ⟨v3, rfl, HO3.out, HB3.out⟩
  · have HR : Hid (fsR q L = [] ∧ fsB q L = false) := ⟨by rw [fsR, if_neg ht], by rw [fsB, if_neg ht]⟩
    rw [(tel_no ht).1] at HC
    rw [HR.out.1, HR.out.2]
    clear h hH ht
    go_enter Try.func39, Try.ntmps39
    go_wp2_with (go_at_call 65; refine HC.out.mono ?_; rintro e w1 ⟨v1, rfl, _, hb1⟩)
    go_ret2
    exact ⟨.slice none 0 0, rfl, HNIL.out _, hb1⟩
end Go.Proofs.Ytnepagdfhoefpab
