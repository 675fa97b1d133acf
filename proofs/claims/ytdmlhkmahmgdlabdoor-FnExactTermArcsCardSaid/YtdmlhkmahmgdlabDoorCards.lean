/-
  DERIVED. GIVEN WITH THE SEED: THE CARDS: each row of YtdmlhkmahmgdlabDoorRows.lean that lists a variable, with what it lists TIED to the program's text (the seventh form; the later family's looks); each row that meets fmt, with fmt's text TOLD by the authors' own Lean function (tested against real Go, not proved from fmt's source: count such statements apart). THE CARD IS WHAT COUNTS. Prove the row's statement (the work); the ties are given (YtdmlhkmahmgdlabDoorTie.lean); close each card by the builder's one call (the guide's Derived/Test/ToyasCard.lean, 'card_holds'). Laid BY PROGRAM, IN A SANDBOX (cutbox-door.mjs). By AI agents, Wed Nov 11 2026. No macro, syntax, notation, axiom, sorry.
-/
import Derived.Test.YtdmlhkmahmgdlabDoorRows
import GoSem.ClaimSeven
namespace Go.Proofs.YtdmlhkmahmgdlabDoor
namespace Rows

/-- THE TIED CARD OF 'laws.FnExactTermArcs'. -/
def fnExactTermArcsCard : Claim7 := { stood := { row := fnExactTermArcsRow, standIns := [], harness := (true, "551aa9b90dfa8e9a2b922289c8d384f85f399c8cdc8d40892178ef30a2034deb"), looks := true }, kinds := [], alts := [], laidByText := true, laidKinds := [.handle], laidTests := true, laidLooks := .later }
def FnExactTermArcsCardSaid : Prop := Claim7.holds Tryd.pinned (.plain (OpenSpec.ofChange fnExactTermArcsSpec)) fnExactTermArcsCard

/-- THE SECOND FORM's CARD OF 'laws.FnExactTermArcs'. -/
def fnExactTermArcsUptoCard : Claim7 := { stood := { row := fnExactTermArcsUptoRow, standIns := [], harness := (true, "551aa9b90dfa8e9a2b922289c8d384f85f399c8cdc8d40892178ef30a2034deb"), looks := true }, kinds := [], alts := [], laidByText := true, laidKinds := [.handle], laidTests := true, laidLooks := .later }
def FnExactTermArcsUptoCardSaid : Prop := Claim7.holds Tryd.pinned (.plain (OpenSpec.upto fnExactTermArcsSpec)) fnExactTermArcsUptoCard
end Rows
end Go.Proofs.YtdmlhkmahmgdlabDoor
