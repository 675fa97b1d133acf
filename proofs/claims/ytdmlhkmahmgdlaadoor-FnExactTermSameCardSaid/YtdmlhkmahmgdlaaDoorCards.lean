/-
  DERIVED. GIVEN WITH THE SEED: THE CARDS: each row of YtdmlhkmahmgdlaaDoorRows.lean that lists a variable, with what it lists TIED to the program's text (the seventh form; the later family's looks); each row that meets fmt, with fmt's text TOLD by the authors' own Lean function (tested against real Go, not proved from fmt's source: count such statements apart). THE CARD IS WHAT COUNTS. Prove the row's statement (the work); the ties are given (YtdmlhkmahmgdlaaDoorTie.lean); close each card by the builder's one call (the guide's Derived/Test/ToyasCard.lean, 'card_holds'). Laid BY PROGRAM, IN A SANDBOX (cutbox-door.mjs). By AI agents, Wed Nov 11 2026. No macro, syntax, notation, axiom, sorry.
-/
import Derived.Test.YtdmlhkmahmgdlaaDoorRows
import GoSem.ClaimSeven
namespace Go.Proofs.YtdmlhkmahmgdlaaDoor
namespace Rows

/-- THE TIED CARD OF 'laws.FnExactTermIn'. -/
def fnExactTermInCard : Claim7 := { stood := { row := fnExactTermInRow, standIns := [], harness := (true, "68f8c14de32a2d08e1a6a92ecaf583ccbf1396b7f08b06d3346fc88529bdc1a0"), looks := true }, kinds := [], alts := [], laidByText := true, laidKinds := [.handle], laidTests := true, laidLooks := .later }
def FnExactTermInCardSaid : Prop := Claim7.holds Tryd.pinned (.plain (OpenSpec.ofChange fnExactTermInSpec)) fnExactTermInCard

/-- THE TIED CARD OF 'laws.FnExactTermRow'. -/
def fnExactTermRowCard : Claim7 := { stood := { row := fnExactTermRowRow, standIns := [], harness := (true, "68f8c14de32a2d08e1a6a92ecaf583ccbf1396b7f08b06d3346fc88529bdc1a0"), looks := true }, kinds := [], alts := [], laidByText := true, laidKinds := [.handle], laidTests := true, laidLooks := .later }
def FnExactTermRowCardSaid : Prop := Claim7.holds Tryd.pinned (.plain (OpenSpec.ofChange fnExactTermRowSpec)) fnExactTermRowCard

/-- THE TIED CARD OF 'laws.FnExactTermRing'. -/
def fnExactTermRingCard : Claim7 := { stood := { row := fnExactTermRingRow, standIns := [], harness := (true, "68f8c14de32a2d08e1a6a92ecaf583ccbf1396b7f08b06d3346fc88529bdc1a0"), looks := true }, kinds := [], alts := [], laidByText := true, laidKinds := [.handle], laidTests := true, laidLooks := .later }
def FnExactTermRingCardSaid : Prop := Claim7.holds Tryd.pinned (.plain (OpenSpec.ofChange fnExactTermRingSpec)) fnExactTermRingCard

/-- THE TIED CARD OF 'laws.FnExactTermTidy'. -/
def fnExactTermTidyCard : Claim7 := { stood := { row := fnExactTermTidyRow, standIns := [], harness := (true, "68f8c14de32a2d08e1a6a92ecaf583ccbf1396b7f08b06d3346fc88529bdc1a0"), looks := true }, kinds := [], alts := [], laidByText := true, laidKinds := [.handle], laidTests := true, laidLooks := .later }
def FnExactTermTidyCardSaid : Prop := Claim7.holds Tryd.pinned (.plain (OpenSpec.ofChange fnExactTermTidySpec)) fnExactTermTidyCard

/-- THE TIED CARD OF 'laws.FnExactTermFlat'. -/
def fnExactTermFlatCard : Claim7 := { stood := { row := fnExactTermFlatRow, standIns := [], harness := (true, "68f8c14de32a2d08e1a6a92ecaf583ccbf1396b7f08b06d3346fc88529bdc1a0"), looks := true }, kinds := [], alts := [], laidByText := true, laidKinds := [.handle], laidTests := true, laidLooks := .later }
def FnExactTermFlatCardSaid : Prop := Claim7.holds Tryd.pinned (.plain (OpenSpec.ofChange fnExactTermFlatSpec)) fnExactTermFlatCard

/-- THE TIED CARD OF 'laws.FnExactTermSame'. -/
def fnExactTermSameCard : Claim7 := { stood := { row := fnExactTermSameRow, standIns := [], harness := (true, "68f8c14de32a2d08e1a6a92ecaf583ccbf1396b7f08b06d3346fc88529bdc1a0"), looks := true }, kinds := [], alts := [], laidByText := true, laidKinds := [.handle], laidTests := true, laidLooks := .later }
def FnExactTermSameCardSaid : Prop := Claim7.holds Tryd.pinned (.plain (OpenSpec.ofChange fnExactTermSameSpec)) fnExactTermSameCard

/-- THE TIED CARD OF 'laws.FnExactTermDeep'. -/
def fnExactTermDeepCard : Claim7 := { stood := { row := fnExactTermDeepRow, standIns := [], harness := (true, "68f8c14de32a2d08e1a6a92ecaf583ccbf1396b7f08b06d3346fc88529bdc1a0"), looks := true }, kinds := [], alts := [], laidByText := true, laidKinds := [.handle], laidTests := true, laidLooks := .later }
def FnExactTermDeepCardSaid : Prop := Claim7.holds Tryd.pinned (.plain (OpenSpec.ofChange fnExactTermDeepSpec)) fnExactTermDeepCard

/-- THE SECOND FORM's CARD OF 'laws.FnExactTermIn'. -/
def fnExactTermInUptoCard : Claim7 := { stood := { row := fnExactTermInUptoRow, standIns := [], harness := (true, "68f8c14de32a2d08e1a6a92ecaf583ccbf1396b7f08b06d3346fc88529bdc1a0"), looks := true }, kinds := [], alts := [], laidByText := true, laidKinds := [.handle], laidTests := true, laidLooks := .later }
def FnExactTermInUptoCardSaid : Prop := Claim7.holds Tryd.pinned (.plain (OpenSpec.upto fnExactTermInSpec)) fnExactTermInUptoCard

/-- THE SECOND FORM's CARD OF 'laws.FnExactTermRow'. -/
def fnExactTermRowUptoCard : Claim7 := { stood := { row := fnExactTermRowUptoRow, standIns := [], harness := (true, "68f8c14de32a2d08e1a6a92ecaf583ccbf1396b7f08b06d3346fc88529bdc1a0"), looks := true }, kinds := [], alts := [], laidByText := true, laidKinds := [.handle], laidTests := true, laidLooks := .later }
def FnExactTermRowUptoCardSaid : Prop := Claim7.holds Tryd.pinned (.plain (OpenSpec.upto fnExactTermRowSpec)) fnExactTermRowUptoCard

/-- THE SECOND FORM's CARD OF 'laws.FnExactTermRing'. -/
def fnExactTermRingUptoCard : Claim7 := { stood := { row := fnExactTermRingUptoRow, standIns := [], harness := (true, "68f8c14de32a2d08e1a6a92ecaf583ccbf1396b7f08b06d3346fc88529bdc1a0"), looks := true }, kinds := [], alts := [], laidByText := true, laidKinds := [.handle], laidTests := true, laidLooks := .later }
def FnExactTermRingUptoCardSaid : Prop := Claim7.holds Tryd.pinned (.plain (OpenSpec.upto fnExactTermRingSpec)) fnExactTermRingUptoCard

/-- THE SECOND FORM's CARD OF 'laws.FnExactTermTidy'. -/
def fnExactTermTidyUptoCard : Claim7 := { stood := { row := fnExactTermTidyUptoRow, standIns := [], harness := (true, "68f8c14de32a2d08e1a6a92ecaf583ccbf1396b7f08b06d3346fc88529bdc1a0"), looks := true }, kinds := [], alts := [], laidByText := true, laidKinds := [.handle], laidTests := true, laidLooks := .later }
def FnExactTermTidyUptoCardSaid : Prop := Claim7.holds Tryd.pinned (.plain (OpenSpec.upto fnExactTermTidySpec)) fnExactTermTidyUptoCard

/-- THE SECOND FORM's CARD OF 'laws.FnExactTermFlat'. -/
def fnExactTermFlatUptoCard : Claim7 := { stood := { row := fnExactTermFlatUptoRow, standIns := [], harness := (true, "68f8c14de32a2d08e1a6a92ecaf583ccbf1396b7f08b06d3346fc88529bdc1a0"), looks := true }, kinds := [], alts := [], laidByText := true, laidKinds := [.handle], laidTests := true, laidLooks := .later }
def FnExactTermFlatUptoCardSaid : Prop := Claim7.holds Tryd.pinned (.plain (OpenSpec.upto fnExactTermFlatSpec)) fnExactTermFlatUptoCard

/-- THE SECOND FORM's CARD OF 'laws.FnExactTermSame'. -/
def fnExactTermSameUptoCard : Claim7 := { stood := { row := fnExactTermSameUptoRow, standIns := [], harness := (true, "68f8c14de32a2d08e1a6a92ecaf583ccbf1396b7f08b06d3346fc88529bdc1a0"), looks := true }, kinds := [], alts := [], laidByText := true, laidKinds := [.handle], laidTests := true, laidLooks := .later }
def FnExactTermSameUptoCardSaid : Prop := Claim7.holds Tryd.pinned (.plain (OpenSpec.upto fnExactTermSameSpec)) fnExactTermSameUptoCard

/-- THE SECOND FORM's CARD OF 'laws.FnExactTermDeep'. -/
def fnExactTermDeepUptoCard : Claim7 := { stood := { row := fnExactTermDeepUptoRow, standIns := [], harness := (true, "68f8c14de32a2d08e1a6a92ecaf583ccbf1396b7f08b06d3346fc88529bdc1a0"), looks := true }, kinds := [], alts := [], laidByText := true, laidKinds := [.handle], laidTests := true, laidLooks := .later }
def FnExactTermDeepUptoCardSaid : Prop := Claim7.holds Tryd.pinned (.plain (OpenSpec.upto fnExactTermDeepSpec)) fnExactTermDeepUptoCard
end Rows
end Go.Proofs.YtdmlhkmahmgdlaaDoor
