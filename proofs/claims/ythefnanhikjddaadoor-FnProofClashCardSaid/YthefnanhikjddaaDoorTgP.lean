/- Maths of proofs of clashes. -/
import Derived.Test.YthefnanhikjddaaDoorLawPC
import Derived.Test.YthefnanhikjddaaDoorPdI
import Derived.Test.YthefnanhikjddaaDoorRdT
namespace Go.Proofs.YthefnanhikjddaaDoor
open Go.ChangeShapes Go.WideShapes Go.ChangeAt Go.RowKit

theorem ct_proof {q : Int} {L : List (List Int)} (h : (ctF q L).isSome = true) : pcB q L (ctT q L) = true := by
  obtain ⟨t, ht⟩ := Option.isSome_iff_exists.1 h
  have e : ctT q L = tld clW t := by rw [ctT, ht]
  rw [e]
  unfold ctF at ht
  split at ht
  · rename_i hT
    have hm := List.mem_of_find?_eq_some ht
    have hp := List.find?_some ht
    obtain ⟨h1, h2⟩ := List.mem_filter.1 hm
    have hthr := (every_thr _ t).1 h1
    rw [pcB, if_pos hT, rd_told _ _ fun x hx => by have := hthr.2.1 x hx; have := hT.2.1; omega]
    have h3 : Cl L t := by simpa using h2
    have h4 : Cl L (turn3 t) := by simpa using hp
    simp [Option.filter, ckL, h3, h4, hthr.1]
  · cases ht
end Go.Proofs.YthefnanhikjddaaDoor
