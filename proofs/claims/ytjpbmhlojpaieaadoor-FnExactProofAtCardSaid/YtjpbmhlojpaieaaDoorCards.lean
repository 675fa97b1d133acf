/-
  DERIVED. GIVEN WITH THE SEED: THE CARDS: each row of YtjpbmhlojpaieaaDoorRows.lean that lists a variable, with what it lists TIED to the program's text (the seventh form; the later family's looks); each row that meets fmt, with fmt's text TOLD by the authors' own Lean function (tested against real Go, not proved from fmt's source: count such statements apart). THE CARD IS WHAT COUNTS. Prove the row's statement (the work); the ties are given (YtjpbmhlojpaieaaDoorTie.lean); close each card by the builder's one call (the guide's Derived/Test/ToyasCard.lean, 'card_holds'). Laid BY PROGRAM, IN A SANDBOX (cutbox-door.mjs). By AI agents, Wed Nov 11 2026. No macro, syntax, notation, axiom, sorry.
-/
import Derived.Test.YtjpbmhlojpaieaaDoorRows
import GoSem.ClaimSeven
namespace Go.Proofs.YtjpbmhlojpaieaaDoor
namespace Rows

/-- THE TIED CARD OF 'laws.FnExactProofAt'. -/
def fnExactProofAtCard : Claim7 := { stood := { row := fnExactProofAtRow, standIns := [], harness := (true, "f2e4b782cca1ae7981aba269b35b02135f1176faedce3cbdb2f851cc91d90978"), looks := false }, kinds := [], alts := [], laidByText := true, laidKinds := [.data, .data, .data], laidTests := true, laidLooks := .later }
def FnExactProofAtCardSaid : Prop := Claim7.holds Tryd.pinned (.plain (OpenSpec.ofChange fnExactProofAtSpec)) fnExactProofAtCard

/-- THE TIED CARD OF 'laws.FnExactProofAtIs'. -/
def fnExactProofAtIsCard : Claim7 := { stood := { row := fnExactProofAtIsRow, standIns := [], harness := (true, "f2e4b782cca1ae7981aba269b35b02135f1176faedce3cbdb2f851cc91d90978"), looks := false }, kinds := [], alts := [], laidByText := true, laidKinds := [.data, .data], laidTests := true, laidLooks := .later }
def FnExactProofAtIsCardSaid : Prop := Claim7.holds Tryd.pinned (.plain (OpenSpec.ofChange fnExactProofAtIsSpec)) fnExactProofAtIsCard

/-- THE TIED CARD OF 'laws.FnExactProofClash'. -/
def fnExactProofClashCard : Claim7 := { stood := { row := fnExactProofClashRow, standIns := [], harness := (true, "f2e4b782cca1ae7981aba269b35b02135f1176faedce3cbdb2f851cc91d90978"), looks := false }, kinds := [], alts := [], laidByText := true, laidKinds := [.data, .data, .data], laidTests := true, laidLooks := .later }
def FnExactProofClashCardSaid : Prop := Claim7.holds Tryd.pinned (.plain (OpenSpec.ofChange fnExactProofClashSpec)) fnExactProofClashCard

/-- THE SECOND FORM's CARD OF 'laws.FnExactProofAt'. -/
def fnExactProofAtUptoCard : Claim7 := { stood := { row := fnExactProofAtUptoRow, standIns := [], harness := (true, "f2e4b782cca1ae7981aba269b35b02135f1176faedce3cbdb2f851cc91d90978"), looks := false }, kinds := [], alts := [], laidByText := true, laidKinds := [.data, .data, .data], laidTests := true, laidLooks := .later }
def FnExactProofAtUptoCardSaid : Prop := Claim7.holds Tryd.pinned (.plain (OpenSpec.upto fnExactProofAtSpec)) fnExactProofAtUptoCard

/-- THE SECOND FORM's CARD OF 'laws.FnExactProofAtIs'. -/
def fnExactProofAtIsUptoCard : Claim7 := { stood := { row := fnExactProofAtIsUptoRow, standIns := [], harness := (true, "f2e4b782cca1ae7981aba269b35b02135f1176faedce3cbdb2f851cc91d90978"), looks := false }, kinds := [], alts := [], laidByText := true, laidKinds := [.data, .data], laidTests := true, laidLooks := .later }
def FnExactProofAtIsUptoCardSaid : Prop := Claim7.holds Tryd.pinned (.plain (OpenSpec.upto fnExactProofAtIsSpec)) fnExactProofAtIsUptoCard

/-- THE SECOND FORM's CARD OF 'laws.FnExactProofClash'. -/
def fnExactProofClashUptoCard : Claim7 := { stood := { row := fnExactProofClashUptoRow, standIns := [], harness := (true, "f2e4b782cca1ae7981aba269b35b02135f1176faedce3cbdb2f851cc91d90978"), looks := false }, kinds := [], alts := [], laidByText := true, laidKinds := [.data, .data, .data], laidTests := true, laidLooks := .later }
def FnExactProofClashUptoCardSaid : Prop := Claim7.holds Tryd.pinned (.plain (OpenSpec.upto fnExactProofClashSpec)) fnExactProofClashUptoCard
end Rows
end Go.Proofs.YtjpbmhlojpaieaaDoor
