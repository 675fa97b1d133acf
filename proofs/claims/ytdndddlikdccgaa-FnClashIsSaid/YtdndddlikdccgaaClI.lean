/- ProofClash of the program. -/
import Derived.Test.YtdndddlikdccgaaPtTCl
import Derived.Test.YtdndddlikdccgaaPdC
import Derived.Test.YtdndddlikdccgaaClF
import Derived.Test.YtdndddlikdccgaaCodS
import Derived.Test.YtdndddlikdccgaaClW
namespace Go.Proofs.Ytdndddlikdccgaa
open Go.ChangeShapes Go.WideShapes Go.ChangeAt Go.RowKit

open Classical in
/-- The first three of a telling's closing that goes round both ways. -/
noncomputable def ctF (q : Int) (L : List (List Int)) : Option (List Int) := if Tel q L then ((everyL q.toNat).filter fun t => decide (Cl L t)).find? fun t => decide (Cl L (turn3 t)) else none
noncomputable def ctT (q : Int) (L : List (List Int)) : ByteArray := match ctF q L with | none => ⟨#[]⟩ | some t => tld clW t
theorem any_find {α : Type} (p : α → Bool) (S : List α) : S.any p = (S.find? p).isSome := by
  rw [Bool.eq_iff_iff, List.any_eq_true, List.find?_isSome]
open Classical in
theorem ctF_of {k : Nat} {L K : List (List Int)} (ht : Tel (k : Int) L) (h : ∀ t, t ∈ K ↔ Cl L t) : ctF (k : Int) L = ((everyL k).filter fun t => decide (t ∈ K)).find? fun t => decide (turn3 t ∈ K) := by
  rw [ctF, if_pos ht, Int.toNat_natCast]
  have e1 : (fun t => decide (Cl L t)) = fun t => decide (t ∈ K) := by
    funext t
    rw [Bool.eq_iff_iff]
    simp [h t]
  have e2 : (fun t => decide (Cl L (turn3 t))) = fun t => decide (turn3 t ∈ K) := by
    funext t
    rw [Bool.eq_iff_iff]
    simp [h (turn3 t)]
  rw [e1, e2]

end Go.Proofs.Ytdndddlikdccgaa
