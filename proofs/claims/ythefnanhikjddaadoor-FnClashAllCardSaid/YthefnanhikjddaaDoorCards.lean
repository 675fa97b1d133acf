/-
  DERIVED. GIVEN WITH THE SEED: THE CARDS: each row of YthefnanhikjddaaDoorRows.lean that lists a variable, with what it lists TIED to the program's text (the seventh form; the later family's looks); each row that meets fmt, with fmt's text TOLD by the authors' own Lean function (tested against real Go, not proved from fmt's source: count such statements apart). THE CARD IS WHAT COUNTS. Prove the row's statement (the work); the ties are given (YthefnanhikjddaaDoorTie.lean); close each card by the builder's one call (the guide's Derived/Test/ToyasCard.lean, 'card_holds'). Laid BY PROGRAM, IN A SANDBOX (cutbox-door.mjs). By AI agents, Wed Nov 11 2026. No macro, syntax, notation, axiom, sorry.
-/
import Derived.Test.YthefnanhikjddaaDoorRows
import GoSem.ClaimSeven
namespace Go.Proofs.YthefnanhikjddaaDoor
namespace Rows

/-- THE TIED CARD OF 'laws.FnProofClash'. -/
def fnProofClashCard : Claim7 := { stood := { row := fnProofClashRow, standIns := [], harness := (true, "c1fd216f816483fbf88914e1839eac55c6ba8250182956128d99e096d2152c4e"), looks := false }, kinds := [], alts := [], laidByText := true, laidKinds := [.data, .data, .data], laidTests := true, laidLooks := .later }
def FnProofClashCardSaid : Prop := Claim7.holds Tryd.pinned (.plain (OpenSpec.ofChange fnProofClashSpec)) fnProofClashCard

/-- THE TIED CARD OF 'laws.FnClashAll'. -/
def fnClashAllCard : Claim7 := { stood := { row := fnClashAllRow, standIns := [], harness := (true, "c1fd216f816483fbf88914e1839eac55c6ba8250182956128d99e096d2152c4e"), looks := false }, kinds := [], alts := [], laidByText := true, laidKinds := [.data, .data, .data], laidTests := true, laidLooks := .later }
def FnClashAllCardSaid : Prop := Claim7.holds Tryd.pinned (.plain (OpenSpec.ofChange fnClashAllSpec)) fnClashAllCard

/-- THE TIED CARD OF 'laws.FnProofAt'. -/
def fnProofAtCard : Claim7 := { stood := { row := fnProofAtRow, standIns := [], harness := (true, "c1fd216f816483fbf88914e1839eac55c6ba8250182956128d99e096d2152c4e"), looks := false }, kinds := [], alts := [], laidByText := true, laidKinds := [.data, .data, .data], laidTests := true, laidLooks := .later }
def FnProofAtCardSaid : Prop := Claim7.holds Tryd.pinned (.plain (OpenSpec.ofChange fnProofAtSpec)) fnProofAtCard

/-- THE SECOND FORM's CARD OF 'laws.FnProofClash'. -/
def fnProofClashUptoCard : Claim7 := { stood := { row := fnProofClashUptoRow, standIns := [], harness := (true, "c1fd216f816483fbf88914e1839eac55c6ba8250182956128d99e096d2152c4e"), looks := false }, kinds := [], alts := [], laidByText := true, laidKinds := [.data, .data, .data], laidTests := true, laidLooks := .later }
def FnProofClashUptoCardSaid : Prop := Claim7.holds Tryd.pinned (.plain (OpenSpec.upto fnProofClashSpec)) fnProofClashUptoCard

/-- THE SECOND FORM's CARD OF 'laws.FnClashAll'. -/
def fnClashAllUptoCard : Claim7 := { stood := { row := fnClashAllUptoRow, standIns := [], harness := (true, "c1fd216f816483fbf88914e1839eac55c6ba8250182956128d99e096d2152c4e"), looks := false }, kinds := [], alts := [], laidByText := true, laidKinds := [.data, .data, .data], laidTests := true, laidLooks := .later }
def FnClashAllUptoCardSaid : Prop := Claim7.holds Tryd.pinned (.plain (OpenSpec.upto fnClashAllSpec)) fnClashAllUptoCard

/-- THE SECOND FORM's CARD OF 'laws.FnProofAt'. -/
def fnProofAtUptoCard : Claim7 := { stood := { row := fnProofAtUptoRow, standIns := [], harness := (true, "c1fd216f816483fbf88914e1839eac55c6ba8250182956128d99e096d2152c4e"), looks := false }, kinds := [], alts := [], laidByText := true, laidKinds := [.data, .data, .data], laidTests := true, laidLooks := .later }
def FnProofAtUptoCardSaid : Prop := Claim7.holds Tryd.pinned (.plain (OpenSpec.upto fnProofAtSpec)) fnProofAtUptoCard
end Rows
end Go.Proofs.YthefnanhikjddaaDoor
