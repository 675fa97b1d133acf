/-
  DERIVED. GIVEN WITH THE SEED: THE CARDS: each row of YthfbllgfcidhkabDoorRows.lean that lists a variable, with what it lists TIED to the program's text (the seventh form; the later family's looks); each row that meets fmt, with fmt's text TOLD by the authors' own Lean function (tested against real Go, not proved from fmt's source: count such statements apart). THE CARD IS WHAT COUNTS. Prove the row's statement (the work); the ties are given (YthfbllgfcidhkabDoorTie.lean); close each card by the builder's one call (the guide's Derived/Test/ToyasCard.lean, 'card_holds'). Laid BY PROGRAM, IN A SANDBOX (cutbox-door.mjs). By AI agents, Wed Nov 11 2026. No macro, syntax, notation, axiom, sorry.
-/
import Derived.Test.YthfbllgfcidhkabDoorRows
import GoSem.ClaimSeven
namespace Go.Proofs.YthfbllgfcidhkabDoor
namespace Rows

/-- THE TIED CARD OF 'laws.FnExactProofSwaps'. -/
def fnExactProofSwapsCard : Claim7 := { stood := { row := fnExactProofSwapsRow, standIns := [], harness := (true, "a9be4c2ec81b8947830135e25aa20cb6008341c6ac1cdc5f8ab0772791004fc5"), looks := false }, kinds := [], alts := [], goes := true, laidByText := true, laidKinds := [.data, .data, .data], laidTests := true, laidLooks := .later }
def FnExactProofSwapsCardSaid : Prop := Claim7.holds Tryd.pinned (.plain (OpenSpec.ofChange fnExactProofSwapsSpec)) fnExactProofSwapsCard

/-- THE TIED CARD OF 'laws.FnExactProofAt'. -/
def fnExactProofAtCard : Claim7 := { stood := { row := fnExactProofAtRow, standIns := [], harness := (true, "a9be4c2ec81b8947830135e25aa20cb6008341c6ac1cdc5f8ab0772791004fc5"), looks := false }, kinds := [], alts := [], goes := true, laidByText := true, laidKinds := [.data, .data, .data], laidTests := true, laidLooks := .later }
def FnExactProofAtCardSaid : Prop := Claim7.holds Tryd.pinned (.plain (OpenSpec.ofChange fnExactProofAtSpec)) fnExactProofAtCard

/-- THE TIED CARD OF 'laws.FnExactProofAtIs'. -/
def fnExactProofAtIsCard : Claim7 := { stood := { row := fnExactProofAtIsRow, standIns := [], harness := (true, "a9be4c2ec81b8947830135e25aa20cb6008341c6ac1cdc5f8ab0772791004fc5"), looks := false }, kinds := [], alts := [], goes := true, laidByText := true, laidKinds := [.data, .data], laidTests := true, laidLooks := .later }
def FnExactProofAtIsCardSaid : Prop := Claim7.holds Tryd.pinned (.plain (OpenSpec.ofChange fnExactProofAtIsSpec)) fnExactProofAtIsCard

/-- THE SECOND FORM's CARD OF 'laws.FnExactProofSwaps'. -/
def fnExactProofSwapsUptoCard : Claim7 := { stood := { row := fnExactProofSwapsUptoRow, standIns := [], harness := (true, "a9be4c2ec81b8947830135e25aa20cb6008341c6ac1cdc5f8ab0772791004fc5"), looks := false }, kinds := [], alts := [], goes := true, laidByText := true, laidKinds := [.data, .data, .data], laidTests := true, laidLooks := .later }
def FnExactProofSwapsUptoCardSaid : Prop := Claim7.holds Tryd.pinned (.plain (OpenSpec.upto fnExactProofSwapsSpec)) fnExactProofSwapsUptoCard

/-- THE SECOND FORM's CARD OF 'laws.FnExactProofAt'. -/
def fnExactProofAtUptoCard : Claim7 := { stood := { row := fnExactProofAtUptoRow, standIns := [], harness := (true, "a9be4c2ec81b8947830135e25aa20cb6008341c6ac1cdc5f8ab0772791004fc5"), looks := false }, kinds := [], alts := [], goes := true, laidByText := true, laidKinds := [.data, .data, .data], laidTests := true, laidLooks := .later }
def FnExactProofAtUptoCardSaid : Prop := Claim7.holds Tryd.pinned (.plain (OpenSpec.upto fnExactProofAtSpec)) fnExactProofAtUptoCard

/-- THE SECOND FORM's CARD OF 'laws.FnExactProofAtIs'. -/
def fnExactProofAtIsUptoCard : Claim7 := { stood := { row := fnExactProofAtIsUptoRow, standIns := [], harness := (true, "a9be4c2ec81b8947830135e25aa20cb6008341c6ac1cdc5f8ab0772791004fc5"), looks := false }, kinds := [], alts := [], goes := true, laidByText := true, laidKinds := [.data, .data], laidTests := true, laidLooks := .later }
def FnExactProofAtIsUptoCardSaid : Prop := Claim7.holds Tryd.pinned (.plain (OpenSpec.upto fnExactProofAtIsSpec)) fnExactProofAtIsUptoCard
end Rows
end Go.Proofs.YthfbllgfcidhkabDoor
