/- Where a proof of a clash is checked, no rings agree. -/
import Derived.Test.YtdndddlikdccgaaPdJ
import Derived.Test.YtdndddlikdccgaaTgM
namespace Go.Proofs.Ytdndddlikdccgaa
open Go.ChangeShapes Go.WideShapes Go.ChangeAt Go.RowKit

theorem pc_told {q : Int} {L : List (List Int)} {s : ByteArray} (h : pcB q L s = true) : Tel q L ∧ rgR q L = 0 := by
  unfold pcB at h
  split at h
  · rename_i ht
    refine ⟨ht, ?_⟩
    obtain ⟨k, rfl, h3, h6⟩ := tel_nat ht
    cases hr : rdW clW.data.toList s.data.toList with
    | none => rw [hr] at h; simp at h
    | some t =>
      rw [hr] at h
      have hc : ckL L t = true := by
        cases e : ckL L t with
        | true => rfl
        | false => simp [Option.filter, e] at h
      unfold ckL at hc
      rw [Bool.and_eq_true, Bool.and_eq_true] at hc
      have h1 : Cl L t := by simpa using hc.1.2
      have h2 : Cl L (turn3 t) := by simpa using hc.2
      rw [rgR, if_pos ht, Int.toNat_natCast, clash_none h3 h6 ht.2.2.2 (mem_clo.2 ⟨h1.thr ht.2.2.2, h1⟩) h2]
      rfl
  · cases h
end Go.Proofs.Ytdndddlikdccgaa
