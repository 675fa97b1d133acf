/-
  DERIVED. GIVEN WITH THE SEED: THE CARDS: each row of YtphffefkjbgibaaGreatDoorRows.lean that lists a variable, with what it lists TIED to the program's text (the seventh form; the later family's looks); each row that meets fmt, with fmt's text TOLD by the authors' own Lean function (tested against real Go, not proved from fmt's source: count such statements apart). THE CARD IS WHAT COUNTS. Prove the row's statement (the work); the ties are given (YtphffefkjbgibaaGreatDoorTie.lean); close each card by the builder's one call (the guide's Derived/Test/ToyasCard.lean, 'card_holds'). Laid BY PROGRAM, IN A SANDBOX (cutbox-door.mjs). By AI agents, Wed Nov 11 2026. No macro, syntax, notation, axiom, sorry.
-/
import Derived.Test.YtphffefkjbgibaaGreatDoorRows
import GoSem.ClaimSeven
namespace Go.Proofs.YtphffefkjbgibaaGreatDoor
namespace Rows

/-- THE TIED CARD OF 'laws.FnFlat'. -/
def fnFlatCard : Claim7 := { stood := { row := fnFlatRow, standIns := [], harness := (true, "85b227bd3fd9bf12a465d9e3711b82b1fb79d9cff19f421b1946abf53e544b84"), looks := true }, kinds := [], alts := [], laidByText := true, laidKinds := [.handle], laidTests := true, laidLooks := .later }
def FnFlatCardSaid : Prop := Claim7.holds Tryz.pinned (.plain (OpenSpec.ofChange fnFlatSpec)) fnFlatCard

/-- THE SECOND FORM's CARD OF 'laws.FnFlat'. -/
def fnFlatUptoCard : Claim7 := { stood := { row := fnFlatUptoRow, standIns := [], harness := (true, "85b227bd3fd9bf12a465d9e3711b82b1fb79d9cff19f421b1946abf53e544b84"), looks := true }, kinds := [], alts := [], laidByText := true, laidKinds := [.handle], laidTests := true, laidLooks := .later }
def FnFlatUptoCardSaid : Prop := Claim7.holds Tryz.pinned (.plain (OpenSpec.upto fnFlatSpec)) fnFlatUptoCard
end Rows
end Go.Proofs.YtphffefkjbgibaaGreatDoor
