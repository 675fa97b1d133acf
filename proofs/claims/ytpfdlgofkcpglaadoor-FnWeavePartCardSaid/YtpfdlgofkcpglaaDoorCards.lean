/-
  DERIVED. GIVEN WITH THE SEED: THE CARDS: each row of YtpfdlgofkcpglaaDoorRows.lean that lists a variable, with what it lists TIED to the program's text (the seventh form; the later family's looks); each row that meets fmt, with fmt's text TOLD by the authors' own Lean function (tested against real Go, not proved from fmt's source: count such statements apart). THE CARD IS WHAT COUNTS. Prove the row's statement (the work); the ties are given (YtpfdlgofkcpglaaDoorTie.lean); close each card by the builder's one call (the guide's Derived/Test/ToyasCard.lean, 'card_holds'). Laid BY PROGRAM, IN A SANDBOX (cutbox-door.mjs). By AI agents, Wed Nov 11 2026. No macro, syntax, notation, axiom, sorry.
-/
import Derived.Test.YtpfdlgofkcpglaaDoorRows
import GoSem.ClaimSeven
namespace Go.Proofs.YtpfdlgofkcpglaaDoor
namespace Rows

/-- THE TIED CARD OF 'laws.FnPart'. -/
def fnPartCard : Claim7 := { stood := { row := fnPartRow, standIns := [], harness := (true, "df7f52d188545fba8fe3bdb57e41e6f60b12d0da6412dd7a0d3b3ef1025b25ad"), looks := false }, kinds := [], alts := [], laidByText := true, laidKinds := [.data, .data], laidTests := true, laidLooks := .later }
def FnPartCardSaid : Prop := Claim7.holds Tryd.pinned (.plain (OpenSpec.ofChange fnPartSpec)) fnPartCard

/-- THE TIED CARD OF 'laws.FnWeavePart'. -/
def fnWeavePartCard : Claim7 := { stood := { row := fnWeavePartRow, standIns := [], harness := (true, "df7f52d188545fba8fe3bdb57e41e6f60b12d0da6412dd7a0d3b3ef1025b25ad"), looks := false }, kinds := [], alts := [], laidByText := true, laidKinds := [.data, .data], laidTests := true, laidLooks := .later }
def FnWeavePartCardSaid : Prop := Claim7.holds Tryd.pinned (.plain (OpenSpec.ofChange fnWeavePartSpec)) fnWeavePartCard

/-- THE TIED CARD OF 'laws.FnWeaveHas'. -/
def fnWeaveHasCard : Claim7 := { stood := { row := fnWeaveHasRow, standIns := [], harness := (true, "df7f52d188545fba8fe3bdb57e41e6f60b12d0da6412dd7a0d3b3ef1025b25ad"), looks := false }, kinds := [], alts := [], laidByText := true, laidKinds := [.data, .data], laidTests := true, laidLooks := .later }
def FnWeaveHasCardSaid : Prop := Claim7.holds Tryd.pinned (.plain (OpenSpec.ofChange fnWeaveHasSpec)) fnWeaveHasCard

/-- THE TIED CARD OF 'laws.FnWeaveRings'. -/
def fnWeaveRingsCard : Claim7 := { stood := { row := fnWeaveRingsRow, standIns := [], harness := (true, "df7f52d188545fba8fe3bdb57e41e6f60b12d0da6412dd7a0d3b3ef1025b25ad"), looks := false }, kinds := [], alts := [], laidByText := true, laidKinds := [.data, .data], laidTests := true, laidLooks := .later }
def FnWeaveRingsCardSaid : Prop := Claim7.holds Tryd.pinned (.plain (OpenSpec.ofChange fnWeaveRingsSpec)) fnWeaveRingsCard

/-- THE TIED CARD OF 'laws.FnWeaveFirst'. -/
def fnWeaveFirstCard : Claim7 := { stood := { row := fnWeaveFirstRow, standIns := [], harness := (true, "df7f52d188545fba8fe3bdb57e41e6f60b12d0da6412dd7a0d3b3ef1025b25ad"), looks := false }, kinds := [], alts := [], laidByText := true, laidKinds := [.data, .data], laidTests := true, laidLooks := .later }
def FnWeaveFirstCardSaid : Prop := Claim7.holds Tryd.pinned (.plain (OpenSpec.ofChange fnWeaveFirstSpec)) fnWeaveFirstCard

/-- THE TIED CARD OF 'laws.FnWeaveCount'. -/
def fnWeaveCountCard : Claim7 := { stood := { row := fnWeaveCountRow, standIns := [], harness := (true, "df7f52d188545fba8fe3bdb57e41e6f60b12d0da6412dd7a0d3b3ef1025b25ad"), looks := false }, kinds := [], alts := [], laidByText := true, laidKinds := [.data, .data], laidTests := true, laidLooks := .later }
def FnWeaveCountCardSaid : Prop := Claim7.holds Tryd.pinned (.plain (OpenSpec.ofChange fnWeaveCountSpec)) fnWeaveCountCard

/-- THE TIED CARD OF 'laws.FnWeaveAll'. -/
def fnWeaveAllCard : Claim7 := { stood := { row := fnWeaveAllRow, standIns := [], harness := (true, "df7f52d188545fba8fe3bdb57e41e6f60b12d0da6412dd7a0d3b3ef1025b25ad"), looks := false }, kinds := [], alts := [], laidByText := true, laidKinds := [.data, .data], laidTests := true, laidLooks := .later }
def FnWeaveAllCardSaid : Prop := Claim7.holds Tryd.pinned (.plain (OpenSpec.ofChange fnWeaveAllSpec)) fnWeaveAllCard

/-- THE TIED CARD OF 'laws.FnPartBack'. -/
def fnPartBackCard : Claim7 := { stood := { row := fnPartBackRow, standIns := [], harness := (true, "df7f52d188545fba8fe3bdb57e41e6f60b12d0da6412dd7a0d3b3ef1025b25ad"), looks := false }, kinds := [], alts := [], laidByText := true, laidKinds := [.data, .data], laidTests := true, laidLooks := .later }
def FnPartBackCardSaid : Prop := Claim7.holds Tryd.pinned (.plain (OpenSpec.ofChange fnPartBackSpec)) fnPartBackCard

/-- THE TIED CARD OF 'laws.FnExactWeavePart'. -/
def fnExactWeavePartCard : Claim7 := { stood := { row := fnExactWeavePartRow, standIns := [], harness := (true, "df7f52d188545fba8fe3bdb57e41e6f60b12d0da6412dd7a0d3b3ef1025b25ad"), looks := false }, kinds := [], alts := [], laidByText := true, laidKinds := [.data, .data], laidTests := true, laidLooks := .later }
def FnExactWeavePartCardSaid : Prop := Claim7.holds Tryd.pinned (.plain (OpenSpec.ofChange fnExactWeavePartSpec)) fnExactWeavePartCard

/-- THE TIED CARD OF 'laws.FnExactWeaveHas'. -/
def fnExactWeaveHasCard : Claim7 := { stood := { row := fnExactWeaveHasRow, standIns := [], harness := (true, "df7f52d188545fba8fe3bdb57e41e6f60b12d0da6412dd7a0d3b3ef1025b25ad"), looks := false }, kinds := [], alts := [], laidByText := true, laidKinds := [.data, .data], laidTests := true, laidLooks := .later }
def FnExactWeaveHasCardSaid : Prop := Claim7.holds Tryd.pinned (.plain (OpenSpec.ofChange fnExactWeaveHasSpec)) fnExactWeaveHasCard

/-- THE TIED CARD OF 'laws.FnExactWeaveRings'. -/
def fnExactWeaveRingsCard : Claim7 := { stood := { row := fnExactWeaveRingsRow, standIns := [], harness := (true, "df7f52d188545fba8fe3bdb57e41e6f60b12d0da6412dd7a0d3b3ef1025b25ad"), looks := false }, kinds := [], alts := [], laidByText := true, laidKinds := [.data, .data], laidTests := true, laidLooks := .later }
def FnExactWeaveRingsCardSaid : Prop := Claim7.holds Tryd.pinned (.plain (OpenSpec.ofChange fnExactWeaveRingsSpec)) fnExactWeaveRingsCard

/-- THE TIED CARD OF 'laws.FnExactWeaveFirst'. -/
def fnExactWeaveFirstCard : Claim7 := { stood := { row := fnExactWeaveFirstRow, standIns := [], harness := (true, "df7f52d188545fba8fe3bdb57e41e6f60b12d0da6412dd7a0d3b3ef1025b25ad"), looks := false }, kinds := [], alts := [], laidByText := true, laidKinds := [.data, .data], laidTests := true, laidLooks := .later }
def FnExactWeaveFirstCardSaid : Prop := Claim7.holds Tryd.pinned (.plain (OpenSpec.ofChange fnExactWeaveFirstSpec)) fnExactWeaveFirstCard

/-- THE TIED CARD OF 'laws.FnExactWeaveCount'. -/
def fnExactWeaveCountCard : Claim7 := { stood := { row := fnExactWeaveCountRow, standIns := [], harness := (true, "df7f52d188545fba8fe3bdb57e41e6f60b12d0da6412dd7a0d3b3ef1025b25ad"), looks := false }, kinds := [], alts := [], laidByText := true, laidKinds := [.data, .data], laidTests := true, laidLooks := .later }
def FnExactWeaveCountCardSaid : Prop := Claim7.holds Tryd.pinned (.plain (OpenSpec.ofChange fnExactWeaveCountSpec)) fnExactWeaveCountCard

/-- THE TIED CARD OF 'laws.FnExactWeaveAll'. -/
def fnExactWeaveAllCard : Claim7 := { stood := { row := fnExactWeaveAllRow, standIns := [], harness := (true, "df7f52d188545fba8fe3bdb57e41e6f60b12d0da6412dd7a0d3b3ef1025b25ad"), looks := false }, kinds := [], alts := [], laidByText := true, laidKinds := [.data, .data], laidTests := true, laidLooks := .later }
def FnExactWeaveAllCardSaid : Prop := Claim7.holds Tryd.pinned (.plain (OpenSpec.ofChange fnExactWeaveAllSpec)) fnExactWeaveAllCard

/-- THE SECOND FORM's CARD OF 'laws.FnPart'. -/
def fnPartUptoCard : Claim7 := { stood := { row := fnPartUptoRow, standIns := [], harness := (true, "df7f52d188545fba8fe3bdb57e41e6f60b12d0da6412dd7a0d3b3ef1025b25ad"), looks := false }, kinds := [], alts := [], laidByText := true, laidKinds := [.data, .data], laidTests := true, laidLooks := .later }
def FnPartUptoCardSaid : Prop := Claim7.holds Tryd.pinned (.plain (OpenSpec.upto fnPartSpec)) fnPartUptoCard

/-- THE SECOND FORM's CARD OF 'laws.FnWeavePart'. -/
def fnWeavePartUptoCard : Claim7 := { stood := { row := fnWeavePartUptoRow, standIns := [], harness := (true, "df7f52d188545fba8fe3bdb57e41e6f60b12d0da6412dd7a0d3b3ef1025b25ad"), looks := false }, kinds := [], alts := [], laidByText := true, laidKinds := [.data, .data], laidTests := true, laidLooks := .later }
def FnWeavePartUptoCardSaid : Prop := Claim7.holds Tryd.pinned (.plain (OpenSpec.upto fnWeavePartSpec)) fnWeavePartUptoCard

/-- THE SECOND FORM's CARD OF 'laws.FnWeaveHas'. -/
def fnWeaveHasUptoCard : Claim7 := { stood := { row := fnWeaveHasUptoRow, standIns := [], harness := (true, "df7f52d188545fba8fe3bdb57e41e6f60b12d0da6412dd7a0d3b3ef1025b25ad"), looks := false }, kinds := [], alts := [], laidByText := true, laidKinds := [.data, .data], laidTests := true, laidLooks := .later }
def FnWeaveHasUptoCardSaid : Prop := Claim7.holds Tryd.pinned (.plain (OpenSpec.upto fnWeaveHasSpec)) fnWeaveHasUptoCard

/-- THE SECOND FORM's CARD OF 'laws.FnWeaveRings'. -/
def fnWeaveRingsUptoCard : Claim7 := { stood := { row := fnWeaveRingsUptoRow, standIns := [], harness := (true, "df7f52d188545fba8fe3bdb57e41e6f60b12d0da6412dd7a0d3b3ef1025b25ad"), looks := false }, kinds := [], alts := [], laidByText := true, laidKinds := [.data, .data], laidTests := true, laidLooks := .later }
def FnWeaveRingsUptoCardSaid : Prop := Claim7.holds Tryd.pinned (.plain (OpenSpec.upto fnWeaveRingsSpec)) fnWeaveRingsUptoCard

/-- THE SECOND FORM's CARD OF 'laws.FnWeaveFirst'. -/
def fnWeaveFirstUptoCard : Claim7 := { stood := { row := fnWeaveFirstUptoRow, standIns := [], harness := (true, "df7f52d188545fba8fe3bdb57e41e6f60b12d0da6412dd7a0d3b3ef1025b25ad"), looks := false }, kinds := [], alts := [], laidByText := true, laidKinds := [.data, .data], laidTests := true, laidLooks := .later }
def FnWeaveFirstUptoCardSaid : Prop := Claim7.holds Tryd.pinned (.plain (OpenSpec.upto fnWeaveFirstSpec)) fnWeaveFirstUptoCard

/-- THE SECOND FORM's CARD OF 'laws.FnWeaveCount'. -/
def fnWeaveCountUptoCard : Claim7 := { stood := { row := fnWeaveCountUptoRow, standIns := [], harness := (true, "df7f52d188545fba8fe3bdb57e41e6f60b12d0da6412dd7a0d3b3ef1025b25ad"), looks := false }, kinds := [], alts := [], laidByText := true, laidKinds := [.data, .data], laidTests := true, laidLooks := .later }
def FnWeaveCountUptoCardSaid : Prop := Claim7.holds Tryd.pinned (.plain (OpenSpec.upto fnWeaveCountSpec)) fnWeaveCountUptoCard

/-- THE SECOND FORM's CARD OF 'laws.FnWeaveAll'. -/
def fnWeaveAllUptoCard : Claim7 := { stood := { row := fnWeaveAllUptoRow, standIns := [], harness := (true, "df7f52d188545fba8fe3bdb57e41e6f60b12d0da6412dd7a0d3b3ef1025b25ad"), looks := false }, kinds := [], alts := [], laidByText := true, laidKinds := [.data, .data], laidTests := true, laidLooks := .later }
def FnWeaveAllUptoCardSaid : Prop := Claim7.holds Tryd.pinned (.plain (OpenSpec.upto fnWeaveAllSpec)) fnWeaveAllUptoCard

/-- THE SECOND FORM's CARD OF 'laws.FnPartBack'. -/
def fnPartBackUptoCard : Claim7 := { stood := { row := fnPartBackUptoRow, standIns := [], harness := (true, "df7f52d188545fba8fe3bdb57e41e6f60b12d0da6412dd7a0d3b3ef1025b25ad"), looks := false }, kinds := [], alts := [], laidByText := true, laidKinds := [.data, .data], laidTests := true, laidLooks := .later }
def FnPartBackUptoCardSaid : Prop := Claim7.holds Tryd.pinned (.plain (OpenSpec.upto fnPartBackSpec)) fnPartBackUptoCard

/-- THE SECOND FORM's CARD OF 'laws.FnExactWeavePart'. -/
def fnExactWeavePartUptoCard : Claim7 := { stood := { row := fnExactWeavePartUptoRow, standIns := [], harness := (true, "df7f52d188545fba8fe3bdb57e41e6f60b12d0da6412dd7a0d3b3ef1025b25ad"), looks := false }, kinds := [], alts := [], laidByText := true, laidKinds := [.data, .data], laidTests := true, laidLooks := .later }
def FnExactWeavePartUptoCardSaid : Prop := Claim7.holds Tryd.pinned (.plain (OpenSpec.upto fnExactWeavePartSpec)) fnExactWeavePartUptoCard

/-- THE SECOND FORM's CARD OF 'laws.FnExactWeaveHas'. -/
def fnExactWeaveHasUptoCard : Claim7 := { stood := { row := fnExactWeaveHasUptoRow, standIns := [], harness := (true, "df7f52d188545fba8fe3bdb57e41e6f60b12d0da6412dd7a0d3b3ef1025b25ad"), looks := false }, kinds := [], alts := [], laidByText := true, laidKinds := [.data, .data], laidTests := true, laidLooks := .later }
def FnExactWeaveHasUptoCardSaid : Prop := Claim7.holds Tryd.pinned (.plain (OpenSpec.upto fnExactWeaveHasSpec)) fnExactWeaveHasUptoCard

/-- THE SECOND FORM's CARD OF 'laws.FnExactWeaveRings'. -/
def fnExactWeaveRingsUptoCard : Claim7 := { stood := { row := fnExactWeaveRingsUptoRow, standIns := [], harness := (true, "df7f52d188545fba8fe3bdb57e41e6f60b12d0da6412dd7a0d3b3ef1025b25ad"), looks := false }, kinds := [], alts := [], laidByText := true, laidKinds := [.data, .data], laidTests := true, laidLooks := .later }
def FnExactWeaveRingsUptoCardSaid : Prop := Claim7.holds Tryd.pinned (.plain (OpenSpec.upto fnExactWeaveRingsSpec)) fnExactWeaveRingsUptoCard

/-- THE SECOND FORM's CARD OF 'laws.FnExactWeaveFirst'. -/
def fnExactWeaveFirstUptoCard : Claim7 := { stood := { row := fnExactWeaveFirstUptoRow, standIns := [], harness := (true, "df7f52d188545fba8fe3bdb57e41e6f60b12d0da6412dd7a0d3b3ef1025b25ad"), looks := false }, kinds := [], alts := [], laidByText := true, laidKinds := [.data, .data], laidTests := true, laidLooks := .later }
def FnExactWeaveFirstUptoCardSaid : Prop := Claim7.holds Tryd.pinned (.plain (OpenSpec.upto fnExactWeaveFirstSpec)) fnExactWeaveFirstUptoCard

/-- THE SECOND FORM's CARD OF 'laws.FnExactWeaveCount'. -/
def fnExactWeaveCountUptoCard : Claim7 := { stood := { row := fnExactWeaveCountUptoRow, standIns := [], harness := (true, "df7f52d188545fba8fe3bdb57e41e6f60b12d0da6412dd7a0d3b3ef1025b25ad"), looks := false }, kinds := [], alts := [], laidByText := true, laidKinds := [.data, .data], laidTests := true, laidLooks := .later }
def FnExactWeaveCountUptoCardSaid : Prop := Claim7.holds Tryd.pinned (.plain (OpenSpec.upto fnExactWeaveCountSpec)) fnExactWeaveCountUptoCard

/-- THE SECOND FORM's CARD OF 'laws.FnExactWeaveAll'. -/
def fnExactWeaveAllUptoCard : Claim7 := { stood := { row := fnExactWeaveAllUptoRow, standIns := [], harness := (true, "df7f52d188545fba8fe3bdb57e41e6f60b12d0da6412dd7a0d3b3ef1025b25ad"), looks := false }, kinds := [], alts := [], laidByText := true, laidKinds := [.data, .data], laidTests := true, laidLooks := .later }
def FnExactWeaveAllUptoCardSaid : Prop := Claim7.holds Tryd.pinned (.plain (OpenSpec.upto fnExactWeaveAllSpec)) fnExactWeaveAllUptoCard
end Rows
end Go.Proofs.YtpfdlgofkcpglaaDoor
