/- Maths of tellings over the contracts' own words. -/
import Derived.Test.YtdndddlikdccgaaTgM
import Derived.Test.YtdndddlikdccgaaCD
namespace Go.Proofs.Ytdndddlikdccgaa
open Go.ChangeShapes Go.WideShapes Go.ChangeAt Go.RowKit

theorem clash_told {q : Int} {L : List (List Int)} (h : chB q L = true) : Tel q L ∧ agreeL q.toNat L = [] := by
  unfold chB at h
  split at h
  · rename_i ht
    refine ⟨ht, ?_⟩
    obtain ⟨k, rfl, h3, h6⟩ := tel_nat ht
    rw [Int.toNat_natCast] at h ⊢
    unfold clashB at h
    obtain ⟨t, h1, h2⟩ := List.any_eq_true.1 h
    exact clash_none h3 h6 ht.2.2.2 h1 (by simpa using h2)
  · cases h
end Go.Proofs.Ytdndddlikdccgaa
