/-
  DERIVED. GIVEN WITH THE SEED: THE CARDS: each row of YtgojojoanhilnaaDoorRows.lean that lists a variable, with what it lists TIED to the program's text (the seventh form; the later family's looks); each row that meets fmt, with fmt's text TOLD by the authors' own Lean function (tested against real Go, not proved from fmt's source: count such statements apart). THE CARD IS WHAT COUNTS. Prove the row's statement (the work); the ties are given (YtgojojoanhilnaaDoorTie.lean); close each card by the builder's one call (the guide's Derived/Test/ToyasCard.lean, 'card_holds'). Laid BY PROGRAM, IN A SANDBOX (cutbox-door.mjs). By AI agents, Wed Nov 11 2026. No macro, syntax, notation, axiom, sorry.
-/
import Derived.Test.YtgojojoanhilnaaDoorRows
import GoSem.ClaimSeven
namespace Go.Proofs.YtgojojoanhilnaaDoor
namespace Rows

/-- THE TIED CARD OF 'laws.FnPart'. -/
def fnPartCard : Claim7 := { stood := { row := fnPartRow, standIns := [], harness := (true, "a1b8a73a1eb810249e064eaff8f1402bd82ba30acae58be3cef7fca833a8a9f5"), looks := false }, kinds := [], alts := [], laidByText := true, laidKinds := [.data, .data], laidTests := true, laidLooks := .later }
def FnPartCardSaid : Prop := Claim7.holds Tryd.pinned (.plain (OpenSpec.ofChange fnPartSpec)) fnPartCard

/-- THE TIED CARD OF 'laws.FnWeaveHas'. -/
def fnWeaveHasCard : Claim7 := { stood := { row := fnWeaveHasRow, standIns := [], harness := (true, "a1b8a73a1eb810249e064eaff8f1402bd82ba30acae58be3cef7fca833a8a9f5"), looks := false }, kinds := [], alts := [], laidByText := true, laidKinds := [.data, .data], laidTests := true, laidLooks := .later }
def FnWeaveHasCardSaid : Prop := Claim7.holds Tryd.pinned (.plain (OpenSpec.ofChange fnWeaveHasSpec)) fnWeaveHasCard

/-- THE TIED CARD OF 'laws.FnWeaveRings'. -/
def fnWeaveRingsCard : Claim7 := { stood := { row := fnWeaveRingsRow, standIns := [], harness := (true, "a1b8a73a1eb810249e064eaff8f1402bd82ba30acae58be3cef7fca833a8a9f5"), looks := false }, kinds := [], alts := [], laidByText := true, laidKinds := [.data, .data], laidTests := true, laidLooks := .later }
def FnWeaveRingsCardSaid : Prop := Claim7.holds Tryd.pinned (.plain (OpenSpec.ofChange fnWeaveRingsSpec)) fnWeaveRingsCard

/-- THE SECOND FORM's CARD OF 'laws.FnPart'. -/
def fnPartUptoCard : Claim7 := { stood := { row := fnPartUptoRow, standIns := [], harness := (true, "a1b8a73a1eb810249e064eaff8f1402bd82ba30acae58be3cef7fca833a8a9f5"), looks := false }, kinds := [], alts := [], laidByText := true, laidKinds := [.data, .data], laidTests := true, laidLooks := .later }
def FnPartUptoCardSaid : Prop := Claim7.holds Tryd.pinned (.plain (OpenSpec.upto fnPartSpec)) fnPartUptoCard

/-- THE SECOND FORM's CARD OF 'laws.FnWeaveHas'. -/
def fnWeaveHasUptoCard : Claim7 := { stood := { row := fnWeaveHasUptoRow, standIns := [], harness := (true, "a1b8a73a1eb810249e064eaff8f1402bd82ba30acae58be3cef7fca833a8a9f5"), looks := false }, kinds := [], alts := [], laidByText := true, laidKinds := [.data, .data], laidTests := true, laidLooks := .later }
def FnWeaveHasUptoCardSaid : Prop := Claim7.holds Tryd.pinned (.plain (OpenSpec.upto fnWeaveHasSpec)) fnWeaveHasUptoCard

/-- THE SECOND FORM's CARD OF 'laws.FnWeaveRings'. -/
def fnWeaveRingsUptoCard : Claim7 := { stood := { row := fnWeaveRingsUptoRow, standIns := [], harness := (true, "a1b8a73a1eb810249e064eaff8f1402bd82ba30acae58be3cef7fca833a8a9f5"), looks := false }, kinds := [], alts := [], laidByText := true, laidKinds := [.data, .data], laidTests := true, laidLooks := .later }
def FnWeaveRingsUptoCardSaid : Prop := Claim7.holds Tryd.pinned (.plain (OpenSpec.upto fnWeaveRingsSpec)) fnWeaveRingsUptoCard
end Rows
end Go.Proofs.YtgojojoanhilnaaDoor
