/- ThreeFirst and ThreeMostRing of the program, the capacity of what they give told. -/
import Derived.Test.YtdndddlikdccgaaMostT
import Derived.Test.YtdndddlikdccgaaMA
namespace Go.Proofs.Ytdndddlikdccgaa
open Go.ChangeShapes Go.WideShapes Go.ChangeAt Go.RowKit

set_option maxRecDepth 10000 in
set_option maxHeartbeats 1000000 in
theorem firstListV_any (v : Value) (C : Nat) (M : List (List Int)) (w : World) (h : RowN w C 69 7 v (padM M)) (hM : M.length ≤ 1000) (hI : ∀ l ∈ M, 1 ≤ l.length ∧ l.length ≤ 7 ∧ ∀ x ∈ l, 0 ≤ x) :
    Calls Try.prog 66 #[v] w fun e w' => ∃ v', e = .returned (.tuple #[v', .bool (decide (0 < M.length))]) ∧ Own w' w.heap.size v' (rowK M 0) ∧ Below w.heap.size w w' := by
  have hlen : (padM M).length = M.length := by simp [padM]
  by_cases h0 : 0 < M.length
  · obtain ⟨g, c', e0, _, _, _, _, _, _⟩ := h.elem (k := 0) (by rw [hlen]; exact h0)
    subst e0
    have HR2 := Lib.hid h
    have H0 : Hid (0 < (padM M).length) := by rw [hlen]; exact h0
    have HE : Hid (rowK (padM M) 0 = padR (rowK M 0)) := by simp [Hid, padM, rowK, List.getD, h0]
    have hi := hI _ (rowK_mem h0)
    have HLI := Lib.hid (fun W => list_any (rowK M 0) W hi.1 hi.2.1 hi.2.2)
    have HD : Hid (decide (0 < M.length) = true) := by simpa [Hid] using h0
    rw [HD.out]
    obtain ⟨z, hz⟩ : ∃ z, z = (padM M).length := ⟨_, rfl⟩
    rw [← hz] at HR2 H0 ⊢
    have HZ := Lib.hid hz.symm
    have hzb : z ≤ 1000 := by omega
    clear h hi hI h0 hlen hz
    have hz0 : 0 < z := H0.out
    have he' : ((z : Int) == 0) = false := by simp; omega
    go_enter Try.func66, Try.ntmps66
    go_wp2_with (first
      | (refine load_elem rfl _ 69 rfl _ rfl Try.underlying69 g z c' C 0 7 (padM M) HR2 (by rw [HZ.out]; exact hz0) ring_size rfl ?_; rw [HE.out])
      | (go_at_call 73; refine (HLI.out _).mono ?_; rintro e w3 ⟨v3, rfl, ho3, hb3⟩))
    go_ret2
    exact ⟨v3, rfl, ho3, hb3⟩
  · have hz : (padM M).length = 0 := by omega
    have HD : Hid (decide (0 < M.length) = false) := by simpa [Hid] using h0
    have HE : Hid (rowK M 0 = []) := by rw [List.eq_nil_of_length_eq_zero (by omega : M.length = 0)]; rfl
    obtain ⟨A', d', rfl⟩ := h.slice
    rw [hz, HD.out, HE.out]
    clear h hM hI h0 hlen hz
    go_enter Try.func66, Try.ntmps66
    go_wp2
    go_ret2
    exact ⟨.slice none 0 0, rfl, ⟨rfl, .inl ⟨rfl, rfl⟩⟩, Below.refl _ _⟩

set_option maxRecDepth 10000 in
set_option maxHeartbeats 1000000 in
theorem fsIv_any (A : Option Addr) (n c H : Nat) (q : Int) (L : List (List Int)) (w : World) (h : RdS w H A n L) (hH : H ≤ w.heap.size) (_ : tot L ≤ 1048576) :
    Calls Try.prog 30 #[.int .i64 q, .slice A n c] w fun e w' => ∃ v, e = .returned (.tuple #[v, .bool (fsB q L)]) ∧ Own w' w.heap.size v (fsR q L) ∧ Below w.heap.size w w' := by
  have HC := Lib.hid (readThrees_any A n c H L q w h hH)
  have hnil : ∀ w' : World, Own w' w.heap.size (.slice none 0 0) [] := fun _ => ⟨rfl, .inl ⟨rfl, rfl⟩⟩
  have HNIL := Lib.hid hnil
  clear hnil
  by_cases ht : Tel q L
  · obtain ⟨k, rfl, h3, h6⟩ := tel_nat ht
    have HT := Lib.hid ht
    have HR : Hid (fsR (k : Int) L = rowK (agreeL k L) 0 ∧ fsB (k : Int) L = decide (0 < (agreeL k L).length)) := ⟨by rw [fsR, if_pos ht, Int.toNat_natCast], by rw [fsB, if_pos ht, Int.toNat_natCast]⟩
    rw [(tel_yes ht).1, (tel_yes ht).2] at HC
    rw [HR.out.1, HR.out.2]
    clear h hH ht
    go_enter Try.func30, Try.ntmps30
    go_wp2_with fail
    refine HC.out.mono ?_
    rintro e w1 ⟨v1, rfl, hr1, hb1⟩
    have HG := Lib.hid (agreeing_any k v1 w.heap.size L w1 hr1 h3 h6 (by have := HT.out.2.2.1; omega) HT.out.2.2.2)
    clear hr1 HC
    go_wp2_with fail
    refine HG.out.mono ?_
    rintro e w2 ⟨v2, rfl, hr2, hb2⟩
    have HB2 := Lib.hid (hb1.trans (hb2.mono hb1.size))
    have HF := Lib.hid (firstListV_any v2 w1.heap.size (agreeL k L) w2 hr2 (by have := agreeL_len k L h3 h6; omega) (fun l hl => by
      have hI := agreeL_is k L h3 h6 l hl
      exact ⟨by rw [hI.1]; omega, by rw [hI.1]; omega, hI.2.1⟩))
    clear hr2 hb1 hb2 HG HR
    go_wp2_with fail
    refine HF.out.mono ?_
    rintro e w3 ⟨v3, rfl, ho3, hb3⟩
    have HO3 := Lib.hid (show Own w3 w.heap.size v3 (rowK (agreeL k L) 0) from (own_less ho3 HB2.out.size))
    have HB3 := Lib.hid (HB2.out.trans (hb3.mono HB2.out.size))
    clear ho3 hb3 HF
    go_wp2
    go_ret2
    exact ⟨v3, rfl, HO3.out, HB3.out⟩
  · have HR : Hid (fsR q L = [] ∧ fsB q L = false) := ⟨by rw [fsR, if_neg ht], by rw [fsB, if_neg ht]⟩
    rw [(tel_no ht).1] at HC
    rw [HR.out.1, HR.out.2]
    clear h hH ht
    go_enter Try.func30, Try.ntmps30
    go_wp2_with (go_at_call 48; refine HC.out.mono ?_; rintro e w1 ⟨v1, rfl, _, hb1⟩)
    go_ret2
    exact ⟨.slice none 0 0, rfl, HNIL.out _, hb1⟩

set_option maxHeartbeats 1000000 in
theorem mrIv_any (A : Option Addr) (n c H : Nat) (q : Int) (L : List (List Int)) (w : World) (h : RdS w H A n L) (hH : H ≤ w.heap.size) (_ : tot L ≤ 1048576) :
    Calls Try.prog 40 #[.int .i64 q, .slice A n c] w fun e w' => ∃ v, e = .returned (.tuple #[v, .bool (tel q L)]) ∧ Own w' w.heap.size v (mrR q L) ∧ Below w.heap.size w w' := by
  have HC := Lib.hid (readThrees_any A n c H L q w h hH)
  by_cases ht : Tel q L
  · obtain ⟨k, rfl, h3, h6⟩ := tel_nat ht
    have HTY := Lib.hid (tel_yes ht).1
    have HT := Lib.hid ht
    have hmi := most_is k L h3 h6
    have HR : Hid (mrR (k : Int) L = mostL k L) := by rw [Hid, mrR, if_pos ht, Int.toNat_natCast]
    have HLI := Lib.hid (fun W => list_any (mostL k L) W (by rw [hmi.1.1]; omega) (by rw [hmi.1.1]; omega) hmi.1.2.1)
    rw [(tel_yes ht).1, (tel_yes ht).2] at HC
    rw [HR.out, HTY.out]
    clear h hH ht hmi
    go_enter Try.func40, Try.ntmps40
    go_wp2_with fail
    refine HC.out.mono ?_
    rintro e w1 ⟨v1, rfl, hr1, hb1⟩
    have HG := Lib.hid (mostA_any k v1 w.heap.size L w1 hr1 h3 h6 (by have := HT.out.2.2.1; omega) HT.out.2.2.2)
    clear hr1 HC
    go_wp2_with fail
    refine HG.out.mono ?_
    rintro e w2 ⟨rfl, hb2⟩
    go_wp2_with fail
    refine (HLI.out _).mono ?_
    rintro e w3 ⟨v3, rfl, ho3, hb3⟩
    have hs2 := Nat.le_trans hb1.size hb2.size
    go_wp2
    go_ret2
    exact ⟨v3, rfl, own_less ho3 hs2, (hb1.trans (hb2.mono hb1.size)).trans (hb3.mono hs2)⟩
  · have HTY := Lib.hid (tel_no ht).1
    have HR : Hid (mrR q L = []) := by rw [Hid, mrR, if_neg ht]
    rw [(tel_no ht).1] at HC
    rw [HR.out, HTY.out]
    clear h hH ht
    go_enter Try.func40, Try.ntmps40
    go_wp2_with (go_at_call 48; refine HC.out.mono ?_; rintro e w1 ⟨v1, rfl, _, hb1⟩)
    go_ret2
    exact ⟨.slice none 0 0, rfl, ⟨rfl, .inl ⟨rfl, rfl⟩⟩, hb1⟩
end Go.Proofs.Ytdndddlikdccgaa
