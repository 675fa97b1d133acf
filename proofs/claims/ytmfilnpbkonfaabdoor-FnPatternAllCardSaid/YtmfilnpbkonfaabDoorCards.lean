/-
  DERIVED. GIVEN WITH THE SEED: THE CARDS: each row of YtmfilnpbkonfaabDoorRows.lean that lists a variable, with what it lists TIED to the program's text (the seventh form; the later family's looks); each row that meets fmt, with fmt's text TOLD by the authors' own Lean function (tested against real Go, not proved from fmt's source: count such statements apart). THE CARD IS WHAT COUNTS. Prove the row's statement (the work); the ties are given (YtmfilnpbkonfaabDoorTie.lean); close each card by the builder's one call (the guide's Derived/Test/ToyasCard.lean, 'card_holds'). Laid BY PROGRAM, IN A SANDBOX (cutbox-door.mjs). By AI agents, Wed Nov 11 2026. No macro, syntax, notation, axiom, sorry.
-/
import Derived.Test.YtmfilnpbkonfaabDoorRows
import GoSem.ClaimSeven
namespace Go.Proofs.YtmfilnpbkonfaabDoor
namespace Rows

/-- THE TIED CARD OF 'laws.FnPatternAt'. -/
def fnPatternAtCard : Claim7 := { stood := { row := fnPatternAtRow, standIns := [], harness := (true, "f6e6ee7ac365c58fd60cf0d460b9c4c83776f4dd2b9c8c277e681020a395ac27"), looks := false }, kinds := [], alts := [], laidByText := true, laidKinds := [.data, .data], laidTests := true, laidLooks := .later }
def FnPatternAtCardSaid : Prop := Claim7.holds Tryd.pinned (.plain (OpenSpec.ofChange fnPatternAtSpec)) fnPatternAtCard

/-- THE TIED CARD OF 'laws.FnPatternFirst'. -/
def fnPatternFirstCard : Claim7 := { stood := { row := fnPatternFirstRow, standIns := [], harness := (true, "f6e6ee7ac365c58fd60cf0d460b9c4c83776f4dd2b9c8c277e681020a395ac27"), looks := false }, kinds := [], alts := [], laidByText := true, laidKinds := [.data, .data], laidTests := true, laidLooks := .later }
def FnPatternFirstCardSaid : Prop := Claim7.holds Tryd.pinned (.plain (OpenSpec.ofChange fnPatternFirstSpec)) fnPatternFirstCard

/-- THE TIED CARD OF 'laws.FnPatternOf'. -/
def fnPatternOfCard : Claim7 := { stood := { row := fnPatternOfRow, standIns := [], harness := (true, "f6e6ee7ac365c58fd60cf0d460b9c4c83776f4dd2b9c8c277e681020a395ac27"), looks := false }, kinds := [], alts := [], laidByText := true, laidKinds := [.data, .data], laidTests := true, laidLooks := .later }
def FnPatternOfCardSaid : Prop := Claim7.holds Tryd.pinned (.plain (OpenSpec.ofChange fnPatternOfSpec)) fnPatternOfCard

/-- THE TIED CARD OF 'laws.FnPatternAll'. -/
def fnPatternAllCard : Claim7 := { stood := { row := fnPatternAllRow, standIns := [], harness := (true, "f6e6ee7ac365c58fd60cf0d460b9c4c83776f4dd2b9c8c277e681020a395ac27"), looks := false }, kinds := [], alts := [], laidByText := true, laidKinds := [.data, .data], laidTests := true, laidLooks := .later }
def FnPatternAllCardSaid : Prop := Claim7.holds Tryd.pinned (.plain (OpenSpec.ofChange fnPatternAllSpec)) fnPatternAllCard

/-- THE SECOND FORM's CARD OF 'laws.FnPatternAt'. -/
def fnPatternAtUptoCard : Claim7 := { stood := { row := fnPatternAtUptoRow, standIns := [], harness := (true, "f6e6ee7ac365c58fd60cf0d460b9c4c83776f4dd2b9c8c277e681020a395ac27"), looks := false }, kinds := [], alts := [], laidByText := true, laidKinds := [.data, .data], laidTests := true, laidLooks := .later }
def FnPatternAtUptoCardSaid : Prop := Claim7.holds Tryd.pinned (.plain (OpenSpec.upto fnPatternAtSpec)) fnPatternAtUptoCard

/-- THE SECOND FORM's CARD OF 'laws.FnPatternFirst'. -/
def fnPatternFirstUptoCard : Claim7 := { stood := { row := fnPatternFirstUptoRow, standIns := [], harness := (true, "f6e6ee7ac365c58fd60cf0d460b9c4c83776f4dd2b9c8c277e681020a395ac27"), looks := false }, kinds := [], alts := [], laidByText := true, laidKinds := [.data, .data], laidTests := true, laidLooks := .later }
def FnPatternFirstUptoCardSaid : Prop := Claim7.holds Tryd.pinned (.plain (OpenSpec.upto fnPatternFirstSpec)) fnPatternFirstUptoCard

/-- THE SECOND FORM's CARD OF 'laws.FnPatternOf'. -/
def fnPatternOfUptoCard : Claim7 := { stood := { row := fnPatternOfUptoRow, standIns := [], harness := (true, "f6e6ee7ac365c58fd60cf0d460b9c4c83776f4dd2b9c8c277e681020a395ac27"), looks := false }, kinds := [], alts := [], laidByText := true, laidKinds := [.data, .data], laidTests := true, laidLooks := .later }
def FnPatternOfUptoCardSaid : Prop := Claim7.holds Tryd.pinned (.plain (OpenSpec.upto fnPatternOfSpec)) fnPatternOfUptoCard

/-- THE SECOND FORM's CARD OF 'laws.FnPatternAll'. -/
def fnPatternAllUptoCard : Claim7 := { stood := { row := fnPatternAllUptoRow, standIns := [], harness := (true, "f6e6ee7ac365c58fd60cf0d460b9c4c83776f4dd2b9c8c277e681020a395ac27"), looks := false }, kinds := [], alts := [], laidByText := true, laidKinds := [.data, .data], laidTests := true, laidLooks := .later }
def FnPatternAllUptoCardSaid : Prop := Claim7.holds Tryd.pinned (.plain (OpenSpec.upto fnPatternAllSpec)) fnPatternAllUptoCard
end Rows
end Go.Proofs.YtmfilnpbkonfaabDoor
