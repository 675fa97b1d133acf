/- WeaveRings and WeaveFirst of the model and of the program. -/
import Derived.Test.YtgojojoanhilnabDoorWvL
import Derived.Test.YtgojojoanhilnabDoorFirst
namespace Go.Proofs.YtgojojoanhilnabDoor
open Go.ChangeShapes Go.WideShapes Go.ChangeAt Go.RowKit

def wrR (q : Int) (L : List (List Int)) : Int := if Lst q L then ((wovenL q.toNat L).length : Nat) else 0
def wfsR (q : Int) (L : List (List Int)) : List Int := if Lst q L then rowK (wovenL q.toNat L) 0 else []
def wfsB (q : Int) (L : List (List Int)) : Bool := if Lst q L then decide (0 < (wovenL q.toNat L).length) else false
theorem wfsR_length (q : Int) (L : List (List Int)) : (wfsR q L).length ≤ 7 := by
  unfold wfsR
  split
  · rename_i ht
    have h36 := ht.1
    rcases Nat.eq_zero_or_pos (wovenL q.toNat L).length with h0 | h0
    · rw [List.eq_nil_of_length_eq_zero h0]; simp [rowK]
    · have := (wovenL_is q.toNat L (by omega) (by omega) _ (rowK_mem h0)).1
      omega
  · simp
theorem lst_nat {q : Int} {L : List (List Int)} (ht : Lst q L) : ∃ k : Nat, q = k ∧ 3 ≤ k ∧ k ≤ 6 := ⟨q.toNat, by have := ht.1; omega, by have := ht.1; omega, by have := ht.1; omega⟩
theorem tot_rows {L : List (List Int)} {n : Nat} (hl : L.length = n) (hn : tot L ≤ 1048576) : ∀ k, k < n → (rowK L k).length ≤ 1048576 := fun k hk => Nat.le_trans (row_le L k (by omega)) hn

theorem GrowS.row6 {w : World} {B : Nat} {v : Value} {L : List (List Int)} (h : GrowS w B v L) {k : Nat} (hk : k < L.length) : ∃ g c A d, v = .slice (some ⟨g, 0, none⟩) L.length c ∧ w.cell? ⟨g, k, none⟩ = some (.slice A (rowK L k).length d) ∧ RowV w B (.slice A (rowK L k).length d) (rowK L k) := by
  obtain ⟨xs, h1, h2⟩ := h
  obtain ⟨vk, h3, h4⟩ := h2 k hk
  obtain ⟨A, d, rfl, _⟩ := h4.2
  rcases h1.2 with ⟨_, h0⟩ | ⟨g, cap, cur, rfl, hB, hg, hc, hm, hs, ht⟩
  · omega
  · refine ⟨g, cap, A, d, rfl, ?_, h4⟩
    rw [cell_of_row w g _ cur _ _ hg]
    rw [← ht, List.getElem?_take, if_pos (by omega)] at h3
    simpa using h3

set_option maxHeartbeats 1000000 in
theorem wfS_any (A : Option Addr) (n c H : Nat) (q : Int) (L : List (List Int)) (w : World) (h : RdS w H A n L) (hH : H ≤ w.heap.size) (hn : tot L ≤ 1048576) :
    Calls Tryd.prog 8 #[.int .i64 q, .slice A n c] w fun e w' => ∃ v, e = .returned (.tuple #[v, .bool (wfsB q L)]) ∧ OwnG w' w.heap.size v (wfsR q L) ∧ Below w.heap.size w w' := by
  have hl := h.len
  have HC := Lib.hid (lists_any A n c H L q w h (by unfold tot at hn; omega) (tot_rows hl hn))
  by_cases ht : Lst q L
  · obtain ⟨k, rfl, h3, h6⟩ := lst_nat ht
    have HG := Lib.hid (fun p => l6wRings_any A n c H k L (w.drewN p) (h.drewN p) hH h3 h6 (by have := ht.2.1; omega) ht.2.2)
    have HR : Hid (wfsR (k : Int) L = rowK (wovenL k L) 0 ∧ wfsB (k : Int) L = decide (0 < (wovenL k L).length)) := ⟨by rw [wfsR, if_pos ht, Int.toNat_natCast], by rw [wfsB, if_pos ht, Int.toNat_natCast]⟩
    rw [(lst_yes ht).1] at HC
    rw [HR.out.1, HR.out.2]
    clear h hl ht
    go_enter Tryd.func8, Tryd.ntmps8
    go_wp2_with fail
    refine HC.out.mono ?_
    rintro e w1 ⟨rfl, p, rfl⟩
    go_wp2_with fail
    refine (HG.out p).mono ?_
    rintro e w2 ⟨v, rfl, hg2, hb2⟩
    have HB2 := Lib.hid ((below_drewN (Below.refl _ _) p).trans hb2)
    by_cases h0 : 0 < (wovenL k L).length
    · obtain ⟨g, c', A', d', rfl, hc, hrow⟩ := hg2.row6 h0
      have HD : Hid (decide (0 < (wovenL k L).length) = true) := by simpa [Hid] using h0
      have HROW := Lib.hid hrow.1
      obtain ⟨z, hz⟩ : ∃ z, z = (wovenL k L).length := ⟨_, rfl⟩
      rw [← hz] at h0 ⊢
      clear hg2 hrow hb2 HG HC HR hz
      have he' : ((z : Int) == 0) = false := by simp; omega
      go_wp2
      go_ret2
      exact ⟨.slice A' (rowK (wovenL k L) 0).length d', by rw [HD.out]; rfl, HROW.out, HB2.out⟩
    · have hz : (wovenL k L).length = 0 := by omega
      have HD : Hid (decide (0 < (wovenL k L).length) = false) := by simpa [Hid] using h0
      have HE : Hid (rowK (wovenL k L) 0 = []) := by rw [List.eq_nil_of_length_eq_zero hz]; rfl
      obtain ⟨A', d', rfl, _⟩ := hg2.slice
      rw [hz]
      clear hg2 hb2 HG HC HR hz
      go_wp2_with fail
      refine (none_any _).mono ?_
      rintro e w3 ⟨v3, rfl, ho3, hb3⟩
      go_wp2
      go_ret2
      exact ⟨v3, by rw [HD.out]; rfl, by rw [HE.out]; exact (own_less ho3 HB2.out.size).gen, HB2.out.trans (hb3.mono HB2.out.size)⟩
  · have HR : Hid (wfsR q L = [] ∧ wfsB q L = false) := ⟨by rw [wfsR, if_neg ht], by rw [wfsB, if_neg ht]⟩
    rw [(lst_no ht).1] at HC
    rw [HR.out.1, HR.out.2]
    clear h hl ht
    go_enter Tryd.func8, Tryd.ntmps8
    go_wp2_with fail
    refine HC.out.mono ?_
    rintro e w1 ⟨rfl, p, rfl⟩
    go_wp2_with fail
    refine (none_any _).mono ?_
    rintro e w3 ⟨v3, rfl, ho3, hb3⟩
    go_wp2
    go_ret2
    exact ⟨_, rfl, ho3.gen, (below_drewN (Below.refl _ _) p).trans hb3⟩

set_option maxRecDepth 10000 in
set_option maxHeartbeats 1000000 in
theorem wfI_any (A : Option Addr) (n c H : Nat) (q : Int) (L : List (List Int)) (w : World) (h : RdS w H A n L) (hH : H ≤ w.heap.size) (hn : tot L ≤ 1048576) (hT : Tab w) :
    Calls Tryd.prog 7 #[.int .i64 q, .slice A n c] w fun e w' => ∃ v, e = .returned (.tuple #[v, .bool (wfsB q L)]) ∧ OwnG w' w.heap.size v (wfsR q L) ∧ Below w.heap.size w w' := by
  have HC := Lib.hid (readParts_any A n c H L q w h hH (by have := h.len; unfold tot at hn; omega) (tot_rows h.len hn))
  have HT := Lib.hid hT
  by_cases ht : Lst q L
  · obtain ⟨k, rfl, h3, h6⟩ := lst_nat ht
    have HTT := Lib.hid ht
    have HR : Hid (wfsR (k : Int) L = rowK (wovenL k L) 0 ∧ wfsB (k : Int) L = decide (0 < (wovenL k L).length)) := ⟨by rw [wfsR, if_pos ht, Int.toNat_natCast], by rw [wfsB, if_pos ht, Int.toNat_natCast]⟩
    rw [(lst_yes ht).1, (lst_yes ht).2] at HC
    rw [HR.out.1, HR.out.2]
    clear h hH ht hT
    go_enter Tryd.func7, Tryd.ntmps7
    go_wp2_with fail
    refine HC.out.mono ?_
    rintro e w1 ⟨v1, rfl, hr1, hb1⟩
    obtain ⟨A1, c1, rfl, _⟩ := hr1.slice
    have HG := Lib.hid (woven_any k A1 L.length c1 w1.heap.size L w1 hr1.rd.2 (Nat.le_refl _) h3 h6 (by have := HTT.out.2.1; omega) HTT.out.2.2 (HT.out.on hb1))
    clear hr1 HC
    go_wp2_with fail
    refine HG.out.mono ?_
    rintro e w2 ⟨v2, rfl, hr2, hb2⟩
    have HB2 := Lib.hid (hb1.trans (hb2.mono hb1.size))
    have HF := Lib.hid (firstList_any v2 w1.heap.size (wovenL k L) w2 hr2 (by have := wovenL_len k L h3 h6; omega) (fun l hl => by
      have hI := wovenL_is k L h3 h6 l hl
      exact ⟨by rw [hI.1]; omega, by rw [hI.1]; omega, hI.2.1⟩))
    clear hr2 hb1 hb2 HG HR
    go_wp2_with fail
    refine HF.out.mono ?_
    rintro e w3 ⟨v3, rfl, ho3, hb3⟩
    have HO3 := Lib.hid (show OwnG w3 w.heap.size v3 (rowK (wovenL k L) 0) from (ownG_dn ho3 HB2.out.size))
    have HB3 := Lib.hid (HB2.out.trans (hb3.mono HB2.out.size))
    clear ho3 hb3 HF
    go_wp2
    go_ret2
    exact ⟨v3, rfl, HO3.out, HB3.out⟩
  · have HR : Hid (wfsR q L = [] ∧ wfsB q L = false) := ⟨by rw [wfsR, if_neg ht], by rw [wfsB, if_neg ht]⟩
    rw [(lst_no ht).1] at HC
    rw [HR.out.1, HR.out.2]
    clear h hH ht hT
    go_enter Tryd.func7, Tryd.ntmps7
    go_wp2_with (go_at_call 21; refine HC.out.mono ?_; rintro e w1 ⟨v1, rfl, hp1, hb1⟩; obtain ⟨A1, c1, ev, _⟩ := hp1.slice; subst ev; clear hp1)
    go_ret2
    exact ⟨.slice none 0 0, rfl, .inl ⟨rfl, rfl⟩, hb1⟩
end Go.Proofs.YtgojojoanhilnabDoor
