/-
  DERIVED. GIVEN WITH THE SEED: THE CARDS: each row of YtmfilnpbkonfaaaDoorRows.lean that lists a variable, with what it lists TIED to the program's text (the seventh form; the later family's looks); each row that meets fmt, with fmt's text TOLD by the authors' own Lean function (tested against real Go, not proved from fmt's source: count such statements apart). THE CARD IS WHAT COUNTS. Prove the row's statement (the work); the ties are given (YtmfilnpbkonfaaaDoorTie.lean); close each card by the builder's one call (the guide's Derived/Test/ToyasCard.lean, 'card_holds'). Laid BY PROGRAM, IN A SANDBOX (cutbox-door.mjs). By AI agents, Wed Nov 11 2026. No macro, syntax, notation, axiom, sorry.
-/
import Derived.Test.YtmfilnpbkonfaaaDoorRows
import GoSem.ClaimSeven
namespace Go.Proofs.YtmfilnpbkonfaaaDoor
namespace Rows

/-- THE TIED CARD OF 'laws.FnPatternFree'. -/
def fnPatternFreeCard : Claim7 := { stood := { row := fnPatternFreeRow, standIns := [], harness := (true, "996a45fe2b62051d4c3c18c3517b98ccc13c029ca36e91de65b7777de520ccd9"), looks := false }, kinds := [], alts := [], laidByText := true, laidKinds := [.data, .data], laidTests := true, laidLooks := .later }
def FnPatternFreeCardSaid : Prop := Claim7.holds Tryd.pinned (.plain (OpenSpec.ofChange fnPatternFreeSpec)) fnPatternFreeCard

/-- THE TIED CARD OF 'laws.FnPatternBack'. -/
def fnPatternBackCard : Claim7 := { stood := { row := fnPatternBackRow, standIns := [], harness := (true, "996a45fe2b62051d4c3c18c3517b98ccc13c029ca36e91de65b7777de520ccd9"), looks := false }, kinds := [], alts := [], laidByText := true, laidKinds := [.data, .data], laidTests := true, laidLooks := .later }
def FnPatternBackCardSaid : Prop := Claim7.holds Tryd.pinned (.plain (OpenSpec.ofChange fnPatternBackSpec)) fnPatternBackCard

/-- THE TIED CARD OF 'laws.FnPatternMany'. -/
def fnPatternManyCard : Claim7 := { stood := { row := fnPatternManyRow, standIns := [], harness := (true, "996a45fe2b62051d4c3c18c3517b98ccc13c029ca36e91de65b7777de520ccd9"), looks := false }, kinds := [], alts := [], laidByText := true, laidKinds := [.data, .data], laidTests := true, laidLooks := .later }
def FnPatternManyCardSaid : Prop := Claim7.holds Tryd.pinned (.plain (OpenSpec.ofChange fnPatternManySpec)) fnPatternManyCard

/-- THE TIED CARD OF 'laws.FnPatternPut'. -/
def fnPatternPutCard : Claim7 := { stood := { row := fnPatternPutRow, standIns := [], harness := (true, "996a45fe2b62051d4c3c18c3517b98ccc13c029ca36e91de65b7777de520ccd9"), looks := false }, kinds := [], alts := [], laidByText := true, laidKinds := [.data, .data], laidTests := true, laidLooks := .later }
def FnPatternPutCardSaid : Prop := Claim7.holds Tryd.pinned (.plain (OpenSpec.ofChange fnPatternPutSpec)) fnPatternPutCard

/-- THE SECOND FORM's CARD OF 'laws.FnPatternFree'. -/
def fnPatternFreeUptoCard : Claim7 := { stood := { row := fnPatternFreeUptoRow, standIns := [], harness := (true, "996a45fe2b62051d4c3c18c3517b98ccc13c029ca36e91de65b7777de520ccd9"), looks := false }, kinds := [], alts := [], laidByText := true, laidKinds := [.data, .data], laidTests := true, laidLooks := .later }
def FnPatternFreeUptoCardSaid : Prop := Claim7.holds Tryd.pinned (.plain (OpenSpec.upto fnPatternFreeSpec)) fnPatternFreeUptoCard

/-- THE SECOND FORM's CARD OF 'laws.FnPatternBack'. -/
def fnPatternBackUptoCard : Claim7 := { stood := { row := fnPatternBackUptoRow, standIns := [], harness := (true, "996a45fe2b62051d4c3c18c3517b98ccc13c029ca36e91de65b7777de520ccd9"), looks := false }, kinds := [], alts := [], laidByText := true, laidKinds := [.data, .data], laidTests := true, laidLooks := .later }
def FnPatternBackUptoCardSaid : Prop := Claim7.holds Tryd.pinned (.plain (OpenSpec.upto fnPatternBackSpec)) fnPatternBackUptoCard

/-- THE SECOND FORM's CARD OF 'laws.FnPatternMany'. -/
def fnPatternManyUptoCard : Claim7 := { stood := { row := fnPatternManyUptoRow, standIns := [], harness := (true, "996a45fe2b62051d4c3c18c3517b98ccc13c029ca36e91de65b7777de520ccd9"), looks := false }, kinds := [], alts := [], laidByText := true, laidKinds := [.data, .data], laidTests := true, laidLooks := .later }
def FnPatternManyUptoCardSaid : Prop := Claim7.holds Tryd.pinned (.plain (OpenSpec.upto fnPatternManySpec)) fnPatternManyUptoCard

/-- THE SECOND FORM's CARD OF 'laws.FnPatternPut'. -/
def fnPatternPutUptoCard : Claim7 := { stood := { row := fnPatternPutUptoRow, standIns := [], harness := (true, "996a45fe2b62051d4c3c18c3517b98ccc13c029ca36e91de65b7777de520ccd9"), looks := false }, kinds := [], alts := [], laidByText := true, laidKinds := [.data, .data], laidTests := true, laidLooks := .later }
def FnPatternPutUptoCardSaid : Prop := Claim7.holds Tryd.pinned (.plain (OpenSpec.upto fnPatternPutSpec)) fnPatternPutUptoCard
end Rows
end Go.Proofs.YtmfilnpbkonfaaaDoor
