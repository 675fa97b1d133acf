/-
  DERIVED. GIVEN WITH THE SEED: THE CARDS: each row of YtphffefkjbgibabDoorRows.lean that lists a variable, with what it lists TIED to the program's text (the seventh form; the later family's looks); each row that meets fmt, with fmt's text TOLD by the authors' own Lean function (tested against real Go, not proved from fmt's source: count such statements apart). THE CARD IS WHAT COUNTS. Prove the row's statement (the work); the ties are given (YtphffefkjbgibabDoorTie.lean); close each card by the builder's one call (the guide's Derived/Test/ToyasCard.lean, 'card_holds'). Laid BY PROGRAM, IN A SANDBOX (cutbox-door.mjs). By AI agents, Wed Nov 11 2026. No macro, syntax, notation, axiom, sorry.
-/
import Derived.Test.YtphffefkjbgibabDoorRows
import GoSem.ClaimSeven
namespace Go.Proofs.YtphffefkjbgibabDoor
namespace Rows

/-- THE TIED CARD OF 'laws.FnProofAt'. -/
def fnProofAtCard : Claim7 := { stood := { row := fnProofAtRow, standIns := [], harness := (true, "a41d07336d2aed651234f272ceb4b4b1170ded770b722928c06bbddb55f01a27"), looks := false }, kinds := [], alts := [], laidByText := true, laidKinds := [.data, .data, .data], laidTests := true, laidLooks := .later }
def FnProofAtCardSaid : Prop := Claim7.holds Tryd.pinned (.plain (OpenSpec.ofChange fnProofAtSpec)) fnProofAtCard

/-- THE TIED CARD OF 'laws.FnAtIs'. -/
def fnAtIsCard : Claim7 := { stood := { row := fnAtIsRow, standIns := [], harness := (true, "a41d07336d2aed651234f272ceb4b4b1170ded770b722928c06bbddb55f01a27"), looks := false }, kinds := [], alts := [], laidByText := true, laidKinds := [.data, .data], laidTests := true, laidLooks := .later }
def FnAtIsCardSaid : Prop := Claim7.holds Tryd.pinned (.plain (OpenSpec.ofChange fnAtIsSpec)) fnAtIsCard

/-- THE SECOND FORM's CARD OF 'laws.FnProofAt'. -/
def fnProofAtUptoCard : Claim7 := { stood := { row := fnProofAtUptoRow, standIns := [], harness := (true, "a41d07336d2aed651234f272ceb4b4b1170ded770b722928c06bbddb55f01a27"), looks := false }, kinds := [], alts := [], laidByText := true, laidKinds := [.data, .data, .data], laidTests := true, laidLooks := .later }
def FnProofAtUptoCardSaid : Prop := Claim7.holds Tryd.pinned (.plain (OpenSpec.upto fnProofAtSpec)) fnProofAtUptoCard

/-- THE SECOND FORM's CARD OF 'laws.FnAtIs'. -/
def fnAtIsUptoCard : Claim7 := { stood := { row := fnAtIsUptoRow, standIns := [], harness := (true, "a41d07336d2aed651234f272ceb4b4b1170ded770b722928c06bbddb55f01a27"), looks := false }, kinds := [], alts := [], laidByText := true, laidKinds := [.data, .data], laidTests := true, laidLooks := .later }
def FnAtIsUptoCardSaid : Prop := Claim7.holds Tryd.pinned (.plain (OpenSpec.upto fnAtIsSpec)) fnAtIsUptoCard
end Rows
end Go.Proofs.YtphffefkjbgibabDoor
