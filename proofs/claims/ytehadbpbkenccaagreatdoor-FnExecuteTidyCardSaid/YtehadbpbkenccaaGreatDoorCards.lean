/-
  DERIVED. GIVEN WITH THE SEED: THE CARDS: each row of YtehadbpbkenccaaGreatDoorRows.lean that lists a variable, with what it lists TIED to the program's text (the seventh form; the later family's looks); each row that meets fmt, with fmt's text TOLD by the authors' own Lean function (tested against real Go, not proved from fmt's source: count such statements apart). THE CARD IS WHAT COUNTS. Prove the row's statement (the work); the ties are given (YtehadbpbkenccaaGreatDoorTie.lean); close each card by the builder's one call (the guide's Derived/Test/ToyasCard.lean, 'card_holds'). Laid BY PROGRAM, IN A SANDBOX (cutbox-door.mjs). By AI agents, Wed Nov 11 2026. No macro, syntax, notation, axiom, sorry.
-/
import Derived.Test.YtehadbpbkenccaaGreatDoorRows
import GoSem.ClaimSeven
namespace Go.Proofs.YtehadbpbkenccaaGreatDoor
namespace Rows

/-- THE TIED CARD OF 'laws.FnExecuteTidy'. -/
def fnExecuteTidyCard : Claim7 := { stood := { row := fnExecuteTidyRow, standIns := [], harness := (true, "ad16d3d573b7461c6f530773ff39a5f954605c4fab2b4e634bd5fbc105f8e0ba"), looks := true }, kinds := [], alts := [], goes := true, laidByText := true, laidKinds := [.data, .data, .data, .data, .handle, .sentinel, .sentinel, .pinned], laidTests := true, laidLooks := .later }
def FnExecuteTidyCardSaid : Prop := Claim7.holds Tryz.pinned (.plain (OpenSpec.ofChange fnExecuteTidySpec)) fnExecuteTidyCard

/-- THE SECOND FORM's CARD OF 'laws.FnExecuteTidy'. -/
def fnExecuteTidyUptoCard : Claim7 := { stood := { row := fnExecuteTidyUptoRow, standIns := [], harness := (true, "ad16d3d573b7461c6f530773ff39a5f954605c4fab2b4e634bd5fbc105f8e0ba"), looks := true }, kinds := [], alts := [], goes := true, laidByText := true, laidKinds := [.data, .data, .data, .data, .handle, .sentinel, .sentinel, .pinned], laidTests := true, laidLooks := .later }
def FnExecuteTidyUptoCardSaid : Prop := Claim7.holds Tryz.pinned (.plain (OpenSpec.upto fnExecuteTidySpec)) fnExecuteTidyUptoCard
end Rows
end Go.Proofs.YtehadbpbkenccaaGreatDoor
