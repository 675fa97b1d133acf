/-
  No cell of these rows narrows 'for every input' (looked for: loops, veiled, ifaces, maps, wideKeys, modest, calm, conditions, laid).
  DERIVED. THE GIVEN ROWS OF THIS SEAT. 9 by the template 'for every input the law returns true; each argument reads behind the call as it read before'; 0 by the template 'total and deterministic' (their statements: YtamnacgclhaggaaTotals.lean).
  GIVEN WITH THE SEED: the statements are not yours to turn. If you find one false, say at which input.
  Laid BY PROGRAM, IN A SANDBOX (cutbox-rows.mjs): the forced cells as the released guide's own fill.sh prints them over the translation c063806f65d01d7b… (all of the seat's roots in one cut). By AI agents, Wed Nov 11 2026. No macro, syntax, notation, axiom, sorry.
-/
import Derived.Test.YtamnacgclhaggaaChecked
import GoSem.Claim
import GoSem.ClaimJoined
import GoSem.ClaimMapViews
import Derived.JoinedTies
import Derived.KernelRfl
namespace Go.Proofs.Ytamnacgclhaggaa
/- THE CELL 'sum', in the pinned program and in every row, IS THE sha256 OF THE DUMP (.gsa) THAT YtamnacgclhaggaaProg.lean LOADS. Nothing in Lean hashes anything: it is a label: what it is worth is what the hold of that sum in a sandbox is worth. -/
noncomputable def Try.pinned : Pinned := { name := "ytamnacgclhaggaa", sum := "c063806f65d01d7bd253f9b4218bcb00b1d2b15101831285b2a456aae205c371", checked := Try.checked }
namespace Rows
def none {H : Type} : Left H := { results := [], args := [] }

/-- 'laws.FnThreeAll': WHATEVER THE INPUT: true; the input reads as it did. -/
def fnThreeAllSpec : ChangeSpec := { name := "fnThreeAll", fn := fun _ => fun
  | [d] => { results := [.lit (.bool true)], args := [d] }
  | _ => none }
def fnThreeAllRow : OpenClaim := { program := "ytamnacgclhaggaa", sum := "c063806f65d01d7bd253f9b4218bcb00b1d2b15101831285b2a456aae205c371", func := "loop.example/ringorders/laws.FnThreeAll", spec := "fnThreeAll", unfollowed := true, recurses := true, apart := false }
def FnThreeAllSaid : Prop := fnThreeAllRow.holds Try.pinned (OpenSpec.ofChange fnThreeAllSpec)

/-- ITS FALSE NEIGHBOUR: 'it returns false'. Refute it at one input. -/
def fnThreeAllWrong : ChangeSpec := { name := "fnThreeAll", fn := fun _ => fun
  | [d] => { results := [.lit (.bool false)], args := [d] }
  | _ => none }
def FnThreeAllWrongFalsely : Prop := fnThreeAllRow.holds Try.pinned (OpenSpec.ofChange fnThreeAllWrong)

/-- 'laws.FnMostBack': WHATEVER THE INPUT: true; the input reads as it did. -/
def fnMostBackSpec : ChangeSpec := { name := "fnMostBack", fn := fun _ => fun
  | [d] => { results := [.lit (.bool true)], args := [d] }
  | _ => none }
def fnMostBackRow : OpenClaim := { program := "ytamnacgclhaggaa", sum := "c063806f65d01d7bd253f9b4218bcb00b1d2b15101831285b2a456aae205c371", func := "loop.example/ringorders/laws.FnMostBack", spec := "fnMostBack", unfollowed := true, recurses := true, apart := false }
def FnMostBackSaid : Prop := fnMostBackRow.holds Try.pinned (OpenSpec.ofChange fnMostBackSpec)

/-- ITS FALSE NEIGHBOUR: 'it returns false'. Refute it at one input. -/
def fnMostBackWrong : ChangeSpec := { name := "fnMostBack", fn := fun _ => fun
  | [d] => { results := [.lit (.bool false)], args := [d] }
  | _ => none }
def FnMostBackWrongFalsely : Prop := fnMostBackRow.holds Try.pinned (OpenSpec.ofChange fnMostBackWrong)

/-- 'laws.FnParts': WHATEVER THE INPUT: true; the input reads as it did. -/
def fnPartsSpec : ChangeSpec := { name := "fnParts", fn := fun _ => fun
  | [d] => { results := [.lit (.bool true)], args := [d] }
  | _ => none }
def fnPartsRow : OpenClaim := { program := "ytamnacgclhaggaa", sum := "c063806f65d01d7bd253f9b4218bcb00b1d2b15101831285b2a456aae205c371", func := "loop.example/ringorders/laws.FnParts", spec := "fnParts", apart := false }
def FnPartsSaid : Prop := fnPartsRow.holds Try.pinned (OpenSpec.ofChange fnPartsSpec)

/-- ITS FALSE NEIGHBOUR: 'it returns false'. Refute it at one input. -/
def fnPartsWrong : ChangeSpec := { name := "fnParts", fn := fun _ => fun
  | [d] => { results := [.lit (.bool false)], args := [d] }
  | _ => none }
def FnPartsWrongFalsely : Prop := fnPartsRow.holds Try.pinned (OpenSpec.ofChange fnPartsWrong)

/-- 'laws.FnScheme': WHATEVER THE INPUT: true; the input reads as it did. -/
def fnSchemeSpec : ChangeSpec := { name := "fnScheme", fn := fun _ => fun
  | [d] => { results := [.lit (.bool true)], args := [d] }
  | _ => none }
def fnSchemeRow : OpenClaim := { program := "ytamnacgclhaggaa", sum := "c063806f65d01d7bd253f9b4218bcb00b1d2b15101831285b2a456aae205c371", func := "loop.example/ringorders/laws.FnScheme", spec := "fnScheme", unfollowed := true, recurses := true, apart := false }
def FnSchemeSaid : Prop := fnSchemeRow.holds Try.pinned (OpenSpec.ofChange fnSchemeSpec)

/-- ITS FALSE NEIGHBOUR: 'it returns false'. Refute it at one input. -/
def fnSchemeWrong : ChangeSpec := { name := "fnScheme", fn := fun _ => fun
  | [d] => { results := [.lit (.bool false)], args := [d] }
  | _ => none }
def FnSchemeWrongFalsely : Prop := fnSchemeRow.holds Try.pinned (OpenSpec.ofChange fnSchemeWrong)

/-- 'laws.FnPairMany': WHATEVER THE INPUT: true; the input reads as it did. -/
def fnPairManySpec : ChangeSpec := { name := "fnPairMany", fn := fun _ => fun
  | [d] => { results := [.lit (.bool true)], args := [d] }
  | _ => none }
def fnPairManyRow : OpenClaim := { program := "ytamnacgclhaggaa", sum := "c063806f65d01d7bd253f9b4218bcb00b1d2b15101831285b2a456aae205c371", func := "loop.example/ringorders/laws.FnPairMany", spec := "fnPairMany", unfollowed := true, recurses := true, apart := false }
def FnPairManySaid : Prop := fnPairManyRow.holds Try.pinned (OpenSpec.ofChange fnPairManySpec)

/-- ITS FALSE NEIGHBOUR: 'it returns false'. Refute it at one input. -/
def fnPairManyWrong : ChangeSpec := { name := "fnPairMany", fn := fun _ => fun
  | [d] => { results := [.lit (.bool false)], args := [d] }
  | _ => none }
def FnPairManyWrongFalsely : Prop := fnPairManyRow.holds Try.pinned (OpenSpec.ofChange fnPairManyWrong)

/-- 'laws.FnBeside': WHATEVER THE INPUT: true; the input reads as it did. -/
def fnBesideSpec : ChangeSpec := { name := "fnBeside", fn := fun _ => fun
  | [d] => { results := [.lit (.bool true)], args := [d] }
  | _ => none }
def fnBesideRow : OpenClaim := { program := "ytamnacgclhaggaa", sum := "c063806f65d01d7bd253f9b4218bcb00b1d2b15101831285b2a456aae205c371", func := "loop.example/ringorders/laws.FnBeside", spec := "fnBeside", apart := false }
def FnBesideSaid : Prop := fnBesideRow.holds Try.pinned (OpenSpec.ofChange fnBesideSpec)

/-- ITS FALSE NEIGHBOUR: 'it returns false'. Refute it at one input. -/
def fnBesideWrong : ChangeSpec := { name := "fnBeside", fn := fun _ => fun
  | [d] => { results := [.lit (.bool false)], args := [d] }
  | _ => none }
def FnBesideWrongFalsely : Prop := fnBesideRow.holds Try.pinned (OpenSpec.ofChange fnBesideWrong)

/-- 'laws.FnChords': WHATEVER THE INPUT: true; the input reads as it did. -/
def fnChordsSpec : ChangeSpec := { name := "fnChords", fn := fun _ => fun
  | [d] => { results := [.lit (.bool true)], args := [d] }
  | _ => none }
def fnChordsRow : OpenClaim := { program := "ytamnacgclhaggaa", sum := "c063806f65d01d7bd253f9b4218bcb00b1d2b15101831285b2a456aae205c371", func := "loop.example/ringorders/laws.FnChords", spec := "fnChords", unfollowed := true, recurses := true, apart := false }
def FnChordsSaid : Prop := fnChordsRow.holds Try.pinned (OpenSpec.ofChange fnChordsSpec)

/-- ITS FALSE NEIGHBOUR: 'it returns false'. Refute it at one input. -/
def fnChordsWrong : ChangeSpec := { name := "fnChords", fn := fun _ => fun
  | [d] => { results := [.lit (.bool false)], args := [d] }
  | _ => none }
def FnChordsWrongFalsely : Prop := fnChordsRow.holds Try.pinned (OpenSpec.ofChange fnChordsWrong)

/-- 'laws.FnFewest': WHATEVER THE INPUT: true; the input reads as it did. -/
def fnFewestSpec : ChangeSpec := { name := "fnFewest", fn := fun _ => fun
  | [d] => { results := [.lit (.bool true)], args := [d] }
  | _ => none }
def fnFewestRow : OpenClaim := { program := "ytamnacgclhaggaa", sum := "c063806f65d01d7bd253f9b4218bcb00b1d2b15101831285b2a456aae205c371", func := "loop.example/ringorders/laws.FnFewest", spec := "fnFewest", unfollowed := true, recurses := true, apart := false }
def FnFewestSaid : Prop := fnFewestRow.holds Try.pinned (OpenSpec.ofChange fnFewestSpec)

/-- ITS FALSE NEIGHBOUR: 'it returns false'. Refute it at one input. -/
def fnFewestWrong : ChangeSpec := { name := "fnFewest", fn := fun _ => fun
  | [d] => { results := [.lit (.bool false)], args := [d] }
  | _ => none }
def FnFewestWrongFalsely : Prop := fnFewestRow.holds Try.pinned (OpenSpec.ofChange fnFewestWrong)

/-- 'laws.FnPartsThree': WHATEVER THE INPUT: true; the input reads as it did. -/
def fnPartsThreeSpec : ChangeSpec := { name := "fnPartsThree", fn := fun _ => fun
  | [d] => { results := [.lit (.bool true)], args := [d] }
  | _ => none }
def fnPartsThreeRow : OpenClaim := { program := "ytamnacgclhaggaa", sum := "c063806f65d01d7bd253f9b4218bcb00b1d2b15101831285b2a456aae205c371", func := "loop.example/ringorders/laws.FnPartsThree", spec := "fnPartsThree", apart := false }
def FnPartsThreeSaid : Prop := fnPartsThreeRow.holds Try.pinned (OpenSpec.ofChange fnPartsThreeSpec)

/-- ITS FALSE NEIGHBOUR: 'it returns false'. Refute it at one input. -/
def fnPartsThreeWrong : ChangeSpec := { name := "fnPartsThree", fn := fun _ => fun
  | [d] => { results := [.lit (.bool false)], args := [d] }
  | _ => none }
def FnPartsThreeWrongFalsely : Prop := fnPartsThreeRow.holds Try.pinned (OpenSpec.ofChange fnPartsThreeWrong)

/- THE SECOND FORM. 'bulk': how many values and letters a reading holds, each counted each time it is reached (what is shared counts as often as it is met; a slice's spare places count too). A statement '..UptoSaid' is the law's where the arguments, and the package variables that the reading takes, are together of bulk at most 1048576: NARROWER than '..Said'. Prove '..Said' where nothing that the law and all that it calls make is longer than what came in: it says more and counts as full. Else prove '..UptoSaid'. A law counts once. -/
mutual
def uptoBulk {H : Type} : DataW H → Nat
  | .lit (.string bytes) => bytes.length + 1
  | .lit _ => 1
  | .nil => 1
  | .ptr d => uptoBulk d + 1
  | .slice elems spare => uptoBulkAll elems + uptoBulkAll spare + 1
  | .agg parts => uptoBulkAll parts + 1
  | .iface _ d => uptoBulk d + 1
  | .map entries => uptoBulkEntries entries + 1
  | .held _ => 1
def uptoBulkAll {H : Type} : List (DataW H) → Nat
  | [] => 0
  | d :: r => uptoBulk d + uptoBulkAll r
def uptoBulkEntries {H : Type} : List (Lit × DataW H) → Nat
  | [] => 0
  | x :: r => uptoBulkEntry x + uptoBulkEntries r
def uptoBulkEntry {H : Type} : Lit × DataW H → Nat
  | (.string bytes, d) => bytes.length + uptoBulk d + 1
  | (_, d) => uptoBulk d + 1
 end
def uptoSmall : (H : Type) → List (DataW H) → Bool := fun _ ds => decide (uptoBulkAll ds ≤ 1048576)
def OpenSpec.upto (s : _root_.Go.ChangeSpec) : _root_.Go.OpenSpec := { _root_.Go.OpenSpec.ofChange s with cond := some uptoSmall }

/-- 'laws.FnThreeAll', WHERE WHAT IT READS IS OF BULK AT MOST 1048576: true; the input reads as it did. -/
def fnThreeAllUptoRow : OpenClaim := { program := "ytamnacgclhaggaa", sum := "c063806f65d01d7bd253f9b4218bcb00b1d2b15101831285b2a456aae205c371", func := "loop.example/ringorders/laws.FnThreeAll", spec := "fnThreeAll", unfollowed := true, recurses := true, apart := false, narrowed := true }
def FnThreeAllUptoSaid : Prop := fnThreeAllUptoRow.holds Try.pinned (OpenSpec.upto fnThreeAllSpec)

/-- 'laws.FnMostBack', WHERE WHAT IT READS IS OF BULK AT MOST 1048576: true; the input reads as it did. -/
def fnMostBackUptoRow : OpenClaim := { program := "ytamnacgclhaggaa", sum := "c063806f65d01d7bd253f9b4218bcb00b1d2b15101831285b2a456aae205c371", func := "loop.example/ringorders/laws.FnMostBack", spec := "fnMostBack", unfollowed := true, recurses := true, apart := false, narrowed := true }
def FnMostBackUptoSaid : Prop := fnMostBackUptoRow.holds Try.pinned (OpenSpec.upto fnMostBackSpec)

/-- 'laws.FnParts', WHERE WHAT IT READS IS OF BULK AT MOST 1048576: true; the input reads as it did. -/
def fnPartsUptoRow : OpenClaim := { program := "ytamnacgclhaggaa", sum := "c063806f65d01d7bd253f9b4218bcb00b1d2b15101831285b2a456aae205c371", func := "loop.example/ringorders/laws.FnParts", spec := "fnParts", apart := false, narrowed := true }
def FnPartsUptoSaid : Prop := fnPartsUptoRow.holds Try.pinned (OpenSpec.upto fnPartsSpec)

/-- 'laws.FnScheme', WHERE WHAT IT READS IS OF BULK AT MOST 1048576: true; the input reads as it did. -/
def fnSchemeUptoRow : OpenClaim := { program := "ytamnacgclhaggaa", sum := "c063806f65d01d7bd253f9b4218bcb00b1d2b15101831285b2a456aae205c371", func := "loop.example/ringorders/laws.FnScheme", spec := "fnScheme", unfollowed := true, recurses := true, apart := false, narrowed := true }
def FnSchemeUptoSaid : Prop := fnSchemeUptoRow.holds Try.pinned (OpenSpec.upto fnSchemeSpec)

/-- 'laws.FnPairMany', WHERE WHAT IT READS IS OF BULK AT MOST 1048576: true; the input reads as it did. -/
def fnPairManyUptoRow : OpenClaim := { program := "ytamnacgclhaggaa", sum := "c063806f65d01d7bd253f9b4218bcb00b1d2b15101831285b2a456aae205c371", func := "loop.example/ringorders/laws.FnPairMany", spec := "fnPairMany", unfollowed := true, recurses := true, apart := false, narrowed := true }
def FnPairManyUptoSaid : Prop := fnPairManyUptoRow.holds Try.pinned (OpenSpec.upto fnPairManySpec)

/-- 'laws.FnBeside', WHERE WHAT IT READS IS OF BULK AT MOST 1048576: true; the input reads as it did. -/
def fnBesideUptoRow : OpenClaim := { program := "ytamnacgclhaggaa", sum := "c063806f65d01d7bd253f9b4218bcb00b1d2b15101831285b2a456aae205c371", func := "loop.example/ringorders/laws.FnBeside", spec := "fnBeside", apart := false, narrowed := true }
def FnBesideUptoSaid : Prop := fnBesideUptoRow.holds Try.pinned (OpenSpec.upto fnBesideSpec)

/-- 'laws.FnChords', WHERE WHAT IT READS IS OF BULK AT MOST 1048576: true; the input reads as it did. -/
def fnChordsUptoRow : OpenClaim := { program := "ytamnacgclhaggaa", sum := "c063806f65d01d7bd253f9b4218bcb00b1d2b15101831285b2a456aae205c371", func := "loop.example/ringorders/laws.FnChords", spec := "fnChords", unfollowed := true, recurses := true, apart := false, narrowed := true }
def FnChordsUptoSaid : Prop := fnChordsUptoRow.holds Try.pinned (OpenSpec.upto fnChordsSpec)

/-- 'laws.FnFewest', WHERE WHAT IT READS IS OF BULK AT MOST 1048576: true; the input reads as it did. -/
def fnFewestUptoRow : OpenClaim := { program := "ytamnacgclhaggaa", sum := "c063806f65d01d7bd253f9b4218bcb00b1d2b15101831285b2a456aae205c371", func := "loop.example/ringorders/laws.FnFewest", spec := "fnFewest", unfollowed := true, recurses := true, apart := false, narrowed := true }
def FnFewestUptoSaid : Prop := fnFewestUptoRow.holds Try.pinned (OpenSpec.upto fnFewestSpec)

/-- 'laws.FnPartsThree', WHERE WHAT IT READS IS OF BULK AT MOST 1048576: true; the input reads as it did. -/
def fnPartsThreeUptoRow : OpenClaim := { program := "ytamnacgclhaggaa", sum := "c063806f65d01d7bd253f9b4218bcb00b1d2b15101831285b2a456aae205c371", func := "loop.example/ringorders/laws.FnPartsThree", spec := "fnPartsThree", apart := false, narrowed := true }
def FnPartsThreeUptoSaid : Prop := fnPartsThreeUptoRow.holds Try.pinned (OpenSpec.upto fnPartsThreeSpec)

end Rows
end Go.Proofs.Ytamnacgclhaggaa
