/-
  DERIVED. GIVEN WITH THE SEED: THE CARDS: each row of YthpomflpnmddoaaGreatDoorRows.lean that lists a variable, with what it lists TIED to the program's text (the seventh form; the later family's looks); each row that meets fmt, with fmt's text TOLD by the authors' own Lean function (tested against real Go, not proved from fmt's source: count such statements apart). THE CARD IS WHAT COUNTS. Prove the row's statement (the work); the ties are given (YthpomflpnmddoaaGreatDoorTie.lean); close each card by the builder's one call (the guide's Derived/Test/ToyasCard.lean, 'card_holds'). Laid BY PROGRAM, IN A SANDBOX (cutbox-door.mjs). By AI agents, Wed Nov 11 2026. No macro, syntax, notation, axiom, sorry.
-/
import Derived.Test.YthpomflpnmddoaaGreatDoorRows
import GoSem.ClaimSeven
namespace Go.Proofs.YthpomflpnmddoaaGreatDoor
namespace Rows

/-- THE TIED CARD OF 'laws.FnTermArcs'. -/
def fnTermArcsCard : Claim7 := { stood := { row := fnTermArcsRow, standIns := [], harness := (true, "30846ef8515fbfa699f1fd8f5e123aded881cee5bad14e25bf82aa3cea8483ab"), looks := true }, kinds := [], alts := [], laidByText := true, laidKinds := [.handle], laidTests := true, laidLooks := .later }
def FnTermArcsCardSaid : Prop := Claim7.holds Tryz.pinned (.plain (OpenSpec.ofChange fnTermArcsSpec)) fnTermArcsCard

/-- THE SECOND FORM's CARD OF 'laws.FnTermArcs'. -/
def fnTermArcsUptoCard : Claim7 := { stood := { row := fnTermArcsUptoRow, standIns := [], harness := (true, "30846ef8515fbfa699f1fd8f5e123aded881cee5bad14e25bf82aa3cea8483ab"), looks := true }, kinds := [], alts := [], laidByText := true, laidKinds := [.handle], laidTests := true, laidLooks := .later }
def FnTermArcsUptoCardSaid : Prop := Claim7.holds Tryz.pinned (.plain (OpenSpec.upto fnTermArcsSpec)) fnTermArcsUptoCard
end Rows
end Go.Proofs.YthpomflpnmddoaaGreatDoor
