/- ArcRings and ArcFirst of the model. -/
import Derived.Test.YtknjioibmgkpmaaArH
namespace Go.Proofs.Ytknjioibmgkpmaa
open Go.ChangeShapes Go.WideShapes Go.ChangeAt Go.RowKit

set_option maxHeartbeats 1000000 in
theorem arS_any (A : Option Addr) (n c H : Nat) (q : Int) (L : List Int) (w : World) (h : Rd w H A n L) (hH : H ≤ w.heap.size) (hn : n ≤ 1048576) :
    Calls Try.prog 27 #[.int .i64 q, .slice A n c] w fun e w' => e = .returned (.tuple #[.int .i64 (arR q L), .bool (famB q L)]) ∧ Below w.heap.size w w' := by
  have hl := h.len
  have HC := Lib.hid (famS_any A n c H L q w h hn)
  by_cases ht : Fam q L
  · obtain ⟨k, rfl, h3, h6, h10, h128⟩ := fam_nat ht
    have HTY := Lib.hid (fam_yes ht)
    have HG := Lib.hid (fun p => l7Rings_any A n c H k L (w.drewN p) (h.drewN p) hH h3 h6 (by rw [← hl]; exact h10) h128)
    have HR : Hid (arR (k : Int) L = ((arcL k L).length : Nat)) := by rw [Hid, arR, if_pos ht, Int.toNat_natCast]
    rw [fam_yes ht] at HC
    rw [HR.out, HTY.out]
    clear h hl ht
    go_enter Try.func27, Try.ntmps27
    go_wp2_with fail
    refine HC.out.mono ?_
    rintro e w1 ⟨rfl, p, rfl⟩
    go_wp2_with fail
    refine (HG.out p).mono ?_
    rintro e w2 ⟨v, rfl, hg2, hb2⟩
    obtain ⟨A2, c2, rfl, _⟩ := hg2.slice
    clear hg2
    go_wp2
    go_ret2
    exact ⟨rfl, (below_drewN (Below.refl _ _) p).trans hb2⟩
  · have HTY := Lib.hid (fam_no ht)
    have HR : Hid (arR q L = 0) := by rw [Hid, arR, if_neg ht]
    rw [fam_no ht] at HC
    rw [HR.out, HTY.out]
    clear h hl ht
    go_enter Try.func27, Try.ntmps27
    go_wp2_with (go_at_call 25; refine HC.out.mono ?_; rintro e w1 ⟨rfl, p, rfl⟩)
    go_ret2
    exact ⟨rfl, below_drewN (Below.refl _ _) p⟩

set_option maxHeartbeats 1000000 in
theorem afS_any (A : Option Addr) (n c H : Nat) (q : Int) (L : List Int) (w : World) (h : Rd w H A n L) (hH : H ≤ w.heap.size) (hn : n ≤ 1048576) :
    Calls Try.prog 29 #[.int .i64 q, .slice A n c] w fun e w' => ∃ v, e = .returned (.tuple #[v, .bool (afB q L)]) ∧ OwnG w' w.heap.size v (afR q L) ∧ Below w.heap.size w w' := by
  have hl := h.len
  have HC := Lib.hid (famS_any A n c H L q w h hn)
  by_cases ht : Fam q L
  · obtain ⟨k, rfl, h3, h6, h10, h128⟩ := fam_nat ht
    have HG := Lib.hid (fun p => l7Rings_any A n c H k L (w.drewN p) (h.drewN p) hH h3 h6 (by rw [← hl]; exact h10) h128)
    have HR : Hid (afR (k : Int) L = rowK (arcL k L) 0 ∧ afB (k : Int) L = decide (0 < (arcL k L).length)) := ⟨by rw [afR, if_pos ht, Int.toNat_natCast], by rw [afB, if_pos ht, Int.toNat_natCast]⟩
    rw [fam_yes ht] at HC
    rw [HR.out.1, HR.out.2]
    clear h hl ht
    go_enter Try.func29, Try.ntmps29
    go_wp2_with fail
    refine HC.out.mono ?_
    rintro e w1 ⟨rfl, p, rfl⟩
    go_wp2_with fail
    refine (HG.out p).mono ?_
    rintro e w2 ⟨v, rfl, hg2, hb2⟩
    have HB2 := Lib.hid ((below_drewN (Below.refl _ _) p).trans hb2)
    by_cases h0 : 0 < (arcL k L).length
    · obtain ⟨g, c', A', d', rfl, hc, hrow⟩ := hg2.row7 h0
      have HD : Hid (decide (0 < (arcL k L).length) = true) := by simpa [Hid] using h0
      have HROW := Lib.hid hrow.1
      obtain ⟨z, hz⟩ : ∃ z, z = (arcL k L).length := ⟨_, rfl⟩
      rw [← hz] at h0 ⊢
      clear hg2 hrow hb2 HG HC HR hz
      have he' : ((z : Int) == 0) = false := by simp; omega
      go_wp2
      go_ret2
      exact ⟨.slice A' (rowK (arcL k L) 0).length d', by rw [HD.out]; rfl, HROW.out, HB2.out⟩
    · have hz : (arcL k L).length = 0 := by omega
      have HD : Hid (decide (0 < (arcL k L).length) = false) := by simpa [Hid] using h0
      have HE : Hid (rowK (arcL k L) 0 = []) := by rw [List.eq_nil_of_length_eq_zero hz]; rfl
      obtain ⟨A', d', rfl, _⟩ := hg2.slice
      rw [hz]
      clear hg2 hb2 HG HC HR hz
      go_wp2_with fail
      refine (none_any _).mono ?_
      rintro e w3 ⟨v3, rfl, ho3, hb3⟩
      go_wp2
      go_ret2
      exact ⟨v3, by rw [HD.out]; rfl, by rw [HE.out]; exact (own_less ho3 HB2.out.size).gen, HB2.out.trans (hb3.mono HB2.out.size)⟩
  · have HR : Hid (afR q L = [] ∧ afB q L = false) := ⟨by rw [afR, if_neg ht], by rw [afB, if_neg ht]⟩
    rw [fam_no ht] at HC
    rw [HR.out.1, HR.out.2]
    clear h hl ht
    go_enter Try.func29, Try.ntmps29
    go_wp2_with fail
    refine HC.out.mono ?_
    rintro e w1 ⟨rfl, p, rfl⟩
    go_wp2_with fail
    refine (none_any _).mono ?_
    rintro e w3 ⟨v3, rfl, ho3, hb3⟩
    go_wp2
    go_ret2
    exact ⟨_, rfl, ho3.gen, (below_drewN (Below.refl _ _) p).trans hb3⟩

end Go.Proofs.Ytknjioibmgkpmaa
