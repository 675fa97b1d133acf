/-
  DERIVED. GIVEN WITH THE SEED: THE CARDS: each row of YtkahnepkafjkpaaDoorRows.lean that lists a variable, with what it lists TIED to the program's text (the seventh form; the later family's looks); each row that meets fmt, with fmt's text TOLD by the authors' own Lean function (tested against real Go, not proved from fmt's source: count such statements apart). THE CARD IS WHAT COUNTS. Prove the row's statement (the work); the ties are given (YtkahnepkafjkpaaDoorTie.lean); close each card by the builder's one call (the guide's Derived/Test/ToyasCard.lean, 'card_holds'). Laid BY PROGRAM, IN A SANDBOX (cutbox-door.mjs). By AI agents, Wed Nov 11 2026. No macro, syntax, notation, axiom, sorry.
-/
import Derived.Test.YtkahnepkafjkpaaDoorRows
import GoSem.ClaimSeven
namespace Go.Proofs.YtkahnepkafjkpaaDoor
namespace Rows

/-- THE TIED CARD OF 'laws.FnExactPatternAt'. -/
def fnExactPatternAtCard : Claim7 := { stood := { row := fnExactPatternAtRow, standIns := [], harness := (true, "cb7d0ca217f6e8074c3d487392a6aad5363b91347d29d16238ce419acfc99f7e"), looks := false }, kinds := [], alts := [], laidByText := true, laidKinds := [.data, .data], laidTests := true, laidLooks := .later }
def FnExactPatternAtCardSaid : Prop := Claim7.holds Tryd.pinned (.plain (OpenSpec.ofChange fnExactPatternAtSpec)) fnExactPatternAtCard

/-- THE TIED CARD OF 'laws.FnExactPatternMany'. -/
def fnExactPatternManyCard : Claim7 := { stood := { row := fnExactPatternManyRow, standIns := [], harness := (true, "cb7d0ca217f6e8074c3d487392a6aad5363b91347d29d16238ce419acfc99f7e"), looks := false }, kinds := [], alts := [], laidByText := true, laidKinds := [.data, .data], laidTests := true, laidLooks := .later }
def FnExactPatternManyCardSaid : Prop := Claim7.holds Tryd.pinned (.plain (OpenSpec.ofChange fnExactPatternManySpec)) fnExactPatternManyCard

/-- THE TIED CARD OF 'laws.FnExactPatternFirst'. -/
def fnExactPatternFirstCard : Claim7 := { stood := { row := fnExactPatternFirstRow, standIns := [], harness := (true, "cb7d0ca217f6e8074c3d487392a6aad5363b91347d29d16238ce419acfc99f7e"), looks := false }, kinds := [], alts := [], laidByText := true, laidKinds := [.data, .data], laidTests := true, laidLooks := .later }
def FnExactPatternFirstCardSaid : Prop := Claim7.holds Tryd.pinned (.plain (OpenSpec.ofChange fnExactPatternFirstSpec)) fnExactPatternFirstCard

/-- THE TIED CARD OF 'laws.FnExactPatternOf'. -/
def fnExactPatternOfCard : Claim7 := { stood := { row := fnExactPatternOfRow, standIns := [], harness := (true, "cb7d0ca217f6e8074c3d487392a6aad5363b91347d29d16238ce419acfc99f7e"), looks := false }, kinds := [], alts := [], laidByText := true, laidKinds := [.data, .data], laidTests := true, laidLooks := .later }
def FnExactPatternOfCardSaid : Prop := Claim7.holds Tryd.pinned (.plain (OpenSpec.ofChange fnExactPatternOfSpec)) fnExactPatternOfCard

/-- THE TIED CARD OF 'laws.FnExactPatternFree'. -/
def fnExactPatternFreeCard : Claim7 := { stood := { row := fnExactPatternFreeRow, standIns := [], harness := (true, "cb7d0ca217f6e8074c3d487392a6aad5363b91347d29d16238ce419acfc99f7e"), looks := false }, kinds := [], alts := [], laidByText := true, laidKinds := [.data, .data], laidTests := true, laidLooks := .later }
def FnExactPatternFreeCardSaid : Prop := Claim7.holds Tryd.pinned (.plain (OpenSpec.ofChange fnExactPatternFreeSpec)) fnExactPatternFreeCard

/-- THE TIED CARD OF 'laws.FnExactPatternAll'. -/
def fnExactPatternAllCard : Claim7 := { stood := { row := fnExactPatternAllRow, standIns := [], harness := (true, "cb7d0ca217f6e8074c3d487392a6aad5363b91347d29d16238ce419acfc99f7e"), looks := false }, kinds := [], alts := [], laidByText := true, laidKinds := [.data, .data], laidTests := true, laidLooks := .later }
def FnExactPatternAllCardSaid : Prop := Claim7.holds Tryd.pinned (.plain (OpenSpec.ofChange fnExactPatternAllSpec)) fnExactPatternAllCard

/-- THE TIED CARD OF 'laws.FnExactPatternBack'. -/
def fnExactPatternBackCard : Claim7 := { stood := { row := fnExactPatternBackRow, standIns := [], harness := (true, "cb7d0ca217f6e8074c3d487392a6aad5363b91347d29d16238ce419acfc99f7e"), looks := false }, kinds := [], alts := [], laidByText := true, laidKinds := [.data, .data], laidTests := true, laidLooks := .later }
def FnExactPatternBackCardSaid : Prop := Claim7.holds Tryd.pinned (.plain (OpenSpec.ofChange fnExactPatternBackSpec)) fnExactPatternBackCard

/-- THE SECOND FORM's CARD OF 'laws.FnExactPatternAt'. -/
def fnExactPatternAtUptoCard : Claim7 := { stood := { row := fnExactPatternAtUptoRow, standIns := [], harness := (true, "cb7d0ca217f6e8074c3d487392a6aad5363b91347d29d16238ce419acfc99f7e"), looks := false }, kinds := [], alts := [], laidByText := true, laidKinds := [.data, .data], laidTests := true, laidLooks := .later }
def FnExactPatternAtUptoCardSaid : Prop := Claim7.holds Tryd.pinned (.plain (OpenSpec.upto fnExactPatternAtSpec)) fnExactPatternAtUptoCard

/-- THE SECOND FORM's CARD OF 'laws.FnExactPatternMany'. -/
def fnExactPatternManyUptoCard : Claim7 := { stood := { row := fnExactPatternManyUptoRow, standIns := [], harness := (true, "cb7d0ca217f6e8074c3d487392a6aad5363b91347d29d16238ce419acfc99f7e"), looks := false }, kinds := [], alts := [], laidByText := true, laidKinds := [.data, .data], laidTests := true, laidLooks := .later }
def FnExactPatternManyUptoCardSaid : Prop := Claim7.holds Tryd.pinned (.plain (OpenSpec.upto fnExactPatternManySpec)) fnExactPatternManyUptoCard

/-- THE SECOND FORM's CARD OF 'laws.FnExactPatternFirst'. -/
def fnExactPatternFirstUptoCard : Claim7 := { stood := { row := fnExactPatternFirstUptoRow, standIns := [], harness := (true, "cb7d0ca217f6e8074c3d487392a6aad5363b91347d29d16238ce419acfc99f7e"), looks := false }, kinds := [], alts := [], laidByText := true, laidKinds := [.data, .data], laidTests := true, laidLooks := .later }
def FnExactPatternFirstUptoCardSaid : Prop := Claim7.holds Tryd.pinned (.plain (OpenSpec.upto fnExactPatternFirstSpec)) fnExactPatternFirstUptoCard

/-- THE SECOND FORM's CARD OF 'laws.FnExactPatternOf'. -/
def fnExactPatternOfUptoCard : Claim7 := { stood := { row := fnExactPatternOfUptoRow, standIns := [], harness := (true, "cb7d0ca217f6e8074c3d487392a6aad5363b91347d29d16238ce419acfc99f7e"), looks := false }, kinds := [], alts := [], laidByText := true, laidKinds := [.data, .data], laidTests := true, laidLooks := .later }
def FnExactPatternOfUptoCardSaid : Prop := Claim7.holds Tryd.pinned (.plain (OpenSpec.upto fnExactPatternOfSpec)) fnExactPatternOfUptoCard

/-- THE SECOND FORM's CARD OF 'laws.FnExactPatternFree'. -/
def fnExactPatternFreeUptoCard : Claim7 := { stood := { row := fnExactPatternFreeUptoRow, standIns := [], harness := (true, "cb7d0ca217f6e8074c3d487392a6aad5363b91347d29d16238ce419acfc99f7e"), looks := false }, kinds := [], alts := [], laidByText := true, laidKinds := [.data, .data], laidTests := true, laidLooks := .later }
def FnExactPatternFreeUptoCardSaid : Prop := Claim7.holds Tryd.pinned (.plain (OpenSpec.upto fnExactPatternFreeSpec)) fnExactPatternFreeUptoCard

/-- THE SECOND FORM's CARD OF 'laws.FnExactPatternAll'. -/
def fnExactPatternAllUptoCard : Claim7 := { stood := { row := fnExactPatternAllUptoRow, standIns := [], harness := (true, "cb7d0ca217f6e8074c3d487392a6aad5363b91347d29d16238ce419acfc99f7e"), looks := false }, kinds := [], alts := [], laidByText := true, laidKinds := [.data, .data], laidTests := true, laidLooks := .later }
def FnExactPatternAllUptoCardSaid : Prop := Claim7.holds Tryd.pinned (.plain (OpenSpec.upto fnExactPatternAllSpec)) fnExactPatternAllUptoCard

/-- THE SECOND FORM's CARD OF 'laws.FnExactPatternBack'. -/
def fnExactPatternBackUptoCard : Claim7 := { stood := { row := fnExactPatternBackUptoRow, standIns := [], harness := (true, "cb7d0ca217f6e8074c3d487392a6aad5363b91347d29d16238ce419acfc99f7e"), looks := false }, kinds := [], alts := [], laidByText := true, laidKinds := [.data, .data], laidTests := true, laidLooks := .later }
def FnExactPatternBackUptoCardSaid : Prop := Claim7.holds Tryd.pinned (.plain (OpenSpec.upto fnExactPatternBackSpec)) fnExactPatternBackUptoCard
end Rows
end Go.Proofs.YtkahnepkafjkpaaDoor
