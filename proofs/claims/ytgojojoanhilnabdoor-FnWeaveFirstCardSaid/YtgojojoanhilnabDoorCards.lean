/-
  DERIVED. GIVEN WITH THE SEED: THE CARDS: each row of YtgojojoanhilnabDoorRows.lean that lists a variable, with what it lists TIED to the program's text (the seventh form; the later family's looks); each row that meets fmt, with fmt's text TOLD by the authors' own Lean function (tested against real Go, not proved from fmt's source: count such statements apart). THE CARD IS WHAT COUNTS. Prove the row's statement (the work); the ties are given (YtgojojoanhilnabDoorTie.lean); close each card by the builder's one call (the guide's Derived/Test/ToyasCard.lean, 'card_holds'). Laid BY PROGRAM, IN A SANDBOX (cutbox-door.mjs). By AI agents, Wed Nov 11 2026. No macro, syntax, notation, axiom, sorry.
-/
import Derived.Test.YtgojojoanhilnabDoorRows
import GoSem.ClaimSeven
namespace Go.Proofs.YtgojojoanhilnabDoor
namespace Rows

/-- THE TIED CARD OF 'laws.FnWeaveFirst'. -/
def fnWeaveFirstCard : Claim7 := { stood := { row := fnWeaveFirstRow, standIns := [], harness := (true, "f5432638ea649f686c7658982b2d5a95a4d2625d719a3b7b076337a36025ac85"), looks := false }, kinds := [], alts := [], laidByText := true, laidKinds := [.data, .data], laidTests := true, laidLooks := .later }
def FnWeaveFirstCardSaid : Prop := Claim7.holds Tryd.pinned (.plain (OpenSpec.ofChange fnWeaveFirstSpec)) fnWeaveFirstCard

/-- THE TIED CARD OF 'laws.FnWeaveCount'. -/
def fnWeaveCountCard : Claim7 := { stood := { row := fnWeaveCountRow, standIns := [], harness := (true, "f5432638ea649f686c7658982b2d5a95a4d2625d719a3b7b076337a36025ac85"), looks := false }, kinds := [], alts := [], laidByText := true, laidKinds := [.data, .data], laidTests := true, laidLooks := .later }
def FnWeaveCountCardSaid : Prop := Claim7.holds Tryd.pinned (.plain (OpenSpec.ofChange fnWeaveCountSpec)) fnWeaveCountCard

/-- THE TIED CARD OF 'laws.FnWeaveAll'. -/
def fnWeaveAllCard : Claim7 := { stood := { row := fnWeaveAllRow, standIns := [], harness := (true, "f5432638ea649f686c7658982b2d5a95a4d2625d719a3b7b076337a36025ac85"), looks := false }, kinds := [], alts := [], laidByText := true, laidKinds := [.data, .data], laidTests := true, laidLooks := .later }
def FnWeaveAllCardSaid : Prop := Claim7.holds Tryd.pinned (.plain (OpenSpec.ofChange fnWeaveAllSpec)) fnWeaveAllCard

/-- THE SECOND FORM's CARD OF 'laws.FnWeaveFirst'. -/
def fnWeaveFirstUptoCard : Claim7 := { stood := { row := fnWeaveFirstUptoRow, standIns := [], harness := (true, "f5432638ea649f686c7658982b2d5a95a4d2625d719a3b7b076337a36025ac85"), looks := false }, kinds := [], alts := [], laidByText := true, laidKinds := [.data, .data], laidTests := true, laidLooks := .later }
def FnWeaveFirstUptoCardSaid : Prop := Claim7.holds Tryd.pinned (.plain (OpenSpec.upto fnWeaveFirstSpec)) fnWeaveFirstUptoCard

/-- THE SECOND FORM's CARD OF 'laws.FnWeaveCount'. -/
def fnWeaveCountUptoCard : Claim7 := { stood := { row := fnWeaveCountUptoRow, standIns := [], harness := (true, "f5432638ea649f686c7658982b2d5a95a4d2625d719a3b7b076337a36025ac85"), looks := false }, kinds := [], alts := [], laidByText := true, laidKinds := [.data, .data], laidTests := true, laidLooks := .later }
def FnWeaveCountUptoCardSaid : Prop := Claim7.holds Tryd.pinned (.plain (OpenSpec.upto fnWeaveCountSpec)) fnWeaveCountUptoCard

/-- THE SECOND FORM's CARD OF 'laws.FnWeaveAll'. -/
def fnWeaveAllUptoCard : Claim7 := { stood := { row := fnWeaveAllUptoRow, standIns := [], harness := (true, "f5432638ea649f686c7658982b2d5a95a4d2625d719a3b7b076337a36025ac85"), looks := false }, kinds := [], alts := [], laidByText := true, laidKinds := [.data, .data], laidTests := true, laidLooks := .later }
def FnWeaveAllUptoCardSaid : Prop := Claim7.holds Tryd.pinned (.plain (OpenSpec.upto fnWeaveAllSpec)) fnWeaveAllUptoCard
end Rows
end Go.Proofs.YtgojojoanhilnabDoor
