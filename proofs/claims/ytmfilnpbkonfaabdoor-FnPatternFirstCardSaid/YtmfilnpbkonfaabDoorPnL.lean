/- The least set at which a ring has a pattern. Plain lemmas. -/
import Derived.Test.YtmfilnpbkonfaabDoorPnY
namespace Go.Proofs.YtmfilnpbkonfaabDoor
open Go.ChangeShapes Go.WideShapes Go.ChangeAt Go.RowKit

theorem pf_facts {l p : List Int} (h : pfB l p = true) : ∃ F : Nat, pfR l p = (F : Int) ∧ F < 128 ∧ ∀ k : Nat, k ≤ F → paB l p (k : Int) = decide (k = F) := by
  have e : pfR l p = (firN l p : Int) := by rw [pfR, if_pos h]
  unfold pfB at h
  split at h
  · rename_i ht
    have hm : 0 < (setsL l p).length := by rw [sets_len]; simpa using h
    obtain ⟨F, hF⟩ : ∃ F, (setsL l p).head? = some F := by
      cases es : setsL l p with
      | nil => rw [es] at hm; simp at hm
      | cons a t => exact ⟨a, rfl⟩
    have hf : (List.range (2 ^ l.length)).find? (atN l p) = some F := by rw [← List.head?_filter]; exact hF
    rw [List.find?_range_eq_some] at hf
    obtain ⟨h1, h2, h3⟩ := hf
    have h2 := List.mem_range.1 h2
    have hfir : firN l p = F := by
      unfold firN
      cases es : setsL l p with
      | nil => rw [es] at hm; simp at hm
      | cons a t => rw [es] at hF; simp at hF; simp [hF]
    have h7 : 2 ^ l.length ≤ 2 ^ 7 := Nat.pow_le_pow_right (by omega) ht.1.1.2.1
    refine ⟨F, by rw [e, hfir], by omega, fun k hk => ?_⟩
    have hs : SetL l (k : Int) := ⟨ht.1, by omega, by
      have : (2 : Int) ^ l.length = ((2 ^ l.length : Nat) : Int) := by simp
      rw [this]; omega⟩
    unfold paB
    rw [two8_yes ht, set_yes hs, Int.toNat_natCast, Bool.true_and, Bool.true_and]
    rcases Nat.lt_or_ge k F with hlt | hge
    · have := h3 k hlt
      rw [decide_eq_false (by omega)]
      simpa using this
    · obtain rfl : k = F := by omega
      rw [h1]; simp
  · cases h
end Go.Proofs.YtmfilnpbkonfaabDoor
