/-
  No cell of these rows narrows 'for every input' (looked for: loops, veiled, ifaces, maps, wideKeys, modest, calm, conditions, laid).
  DERIVED. THE GIVEN ROWS OF THIS SEAT. 9 by the template 'for every input the law returns true; each argument reads behind the call as it read before'; 0 by the template 'total and deterministic' (their statements: YtheoepbcejlncaaTotals.lean).
  GIVEN WITH THE SEED: the statements are not yours to turn. If you find one false, say at which input.
  Laid BY PROGRAM, IN A SANDBOX (cutbox-rows.mjs): the forced cells as the released guide's own fill.sh prints them over the translation 9498b198684a8310… (all of the seat's roots in one cut). By AI agents, Wed Nov 11 2026. No macro, syntax, notation, axiom, sorry.
-/
import Derived.Test.YtheoepbcejlncaaChecked
import GoSem.Claim
import GoSem.ClaimJoined
import GoSem.ClaimMapViews
import Derived.JoinedTies
import Derived.KernelRfl
namespace Go.Proofs.Ytheoepbcejlncaa
/- THE CELL 'sum', in the pinned program and in every row, IS THE sha256 OF THE DUMP (.gsa) THAT YtheoepbcejlncaaProg.lean LOADS. Nothing in Lean hashes anything: it is a label: what it is worth is what the hold of that sum in a sandbox is worth. -/
noncomputable def Try.pinned : Pinned := { name := "ytheoepbcejlncaa", sum := "9498b198684a83108cdcdb9f1ed542835419600b3f86caf83499fdc14f846f36", checked := Try.checked }
namespace Rows
def none {H : Type} : Left H := { results := [], args := [] }

/-- 'laws.FnArc': WHATEVER THE INPUT: true; the input reads as it did. -/
def fnArcSpec : ChangeSpec := { name := "fnArc", fn := fun _ => fun
  | [d] => { results := [.lit (.bool true)], args := [d] }
  | _ => none }
def fnArcRow : OpenClaim := { program := "ytheoepbcejlncaa", sum := "9498b198684a83108cdcdb9f1ed542835419600b3f86caf83499fdc14f846f36", func := "loop.example/ringorders/laws.FnArc", spec := "fnArc", unfollowed := true, recurses := true, apart := false }
def FnArcSaid : Prop := fnArcRow.holds Try.pinned (OpenSpec.ofChange fnArcSpec)

/-- ITS FALSE NEIGHBOUR: 'it returns false'. Refute it at one input. -/
def fnArcWrong : ChangeSpec := { name := "fnArc", fn := fun _ => fun
  | [d] => { results := [.lit (.bool false)], args := [d] }
  | _ => none }
def FnArcWrongFalsely : Prop := fnArcRow.holds Try.pinned (OpenSpec.ofChange fnArcWrong)

/-- 'laws.FnArcAll': WHATEVER THE INPUT: true; the input reads as it did. -/
def fnArcAllSpec : ChangeSpec := { name := "fnArcAll", fn := fun _ => fun
  | [d] => { results := [.lit (.bool true)], args := [d] }
  | _ => none }
def fnArcAllRow : OpenClaim := { program := "ytheoepbcejlncaa", sum := "9498b198684a83108cdcdb9f1ed542835419600b3f86caf83499fdc14f846f36", func := "loop.example/ringorders/laws.FnArcAll", spec := "fnArcAll", unfollowed := true, recurses := true, apart := false }
def FnArcAllSaid : Prop := fnArcAllRow.holds Try.pinned (OpenSpec.ofChange fnArcAllSpec)

/-- ITS FALSE NEIGHBOUR: 'it returns false'. Refute it at one input. -/
def fnArcAllWrong : ChangeSpec := { name := "fnArcAll", fn := fun _ => fun
  | [d] => { results := [.lit (.bool false)], args := [d] }
  | _ => none }
def FnArcAllWrongFalsely : Prop := fnArcAllRow.holds Try.pinned (OpenSpec.ofChange fnArcAllWrong)

/-- 'laws.FnFamily': WHATEVER THE INPUT: true; the input reads as it did. -/
def fnFamilySpec : ChangeSpec := { name := "fnFamily", fn := fun _ => fun
  | [d] => { results := [.lit (.bool true)], args := [d] }
  | _ => none }
def fnFamilyRow : OpenClaim := { program := "ytheoepbcejlncaa", sum := "9498b198684a83108cdcdb9f1ed542835419600b3f86caf83499fdc14f846f36", func := "loop.example/ringorders/laws.FnFamily", spec := "fnFamily", apart := false }
def FnFamilySaid : Prop := fnFamilyRow.holds Try.pinned (OpenSpec.ofChange fnFamilySpec)

/-- ITS FALSE NEIGHBOUR: 'it returns false'. Refute it at one input. -/
def fnFamilyWrong : ChangeSpec := { name := "fnFamily", fn := fun _ => fun
  | [d] => { results := [.lit (.bool false)], args := [d] }
  | _ => none }
def FnFamilyWrongFalsely : Prop := fnFamilyRow.holds Try.pinned (OpenSpec.ofChange fnFamilyWrong)

/-- 'laws.FnArcRings': WHATEVER THE INPUT: true; the input reads as it did. -/
def fnArcRingsSpec : ChangeSpec := { name := "fnArcRings", fn := fun _ => fun
  | [d] => { results := [.lit (.bool true)], args := [d] }
  | _ => none }
def fnArcRingsRow : OpenClaim := { program := "ytheoepbcejlncaa", sum := "9498b198684a83108cdcdb9f1ed542835419600b3f86caf83499fdc14f846f36", func := "loop.example/ringorders/laws.FnArcRings", spec := "fnArcRings", unfollowed := true, recurses := true, apart := false }
def FnArcRingsSaid : Prop := fnArcRingsRow.holds Try.pinned (OpenSpec.ofChange fnArcRingsSpec)

/-- ITS FALSE NEIGHBOUR: 'it returns false'. Refute it at one input. -/
def fnArcRingsWrong : ChangeSpec := { name := "fnArcRings", fn := fun _ => fun
  | [d] => { results := [.lit (.bool false)], args := [d] }
  | _ => none }
def FnArcRingsWrongFalsely : Prop := fnArcRingsRow.holds Try.pinned (OpenSpec.ofChange fnArcRingsWrong)

/-- 'laws.FnArcFirst': WHATEVER THE INPUT: true; the input reads as it did. -/
def fnArcFirstSpec : ChangeSpec := { name := "fnArcFirst", fn := fun _ => fun
  | [d] => { results := [.lit (.bool true)], args := [d] }
  | _ => none }
def fnArcFirstRow : OpenClaim := { program := "ytheoepbcejlncaa", sum := "9498b198684a83108cdcdb9f1ed542835419600b3f86caf83499fdc14f846f36", func := "loop.example/ringorders/laws.FnArcFirst", spec := "fnArcFirst", unfollowed := true, recurses := true, apart := false }
def FnArcFirstSaid : Prop := fnArcFirstRow.holds Try.pinned (OpenSpec.ofChange fnArcFirstSpec)

/-- ITS FALSE NEIGHBOUR: 'it returns false'. Refute it at one input. -/
def fnArcFirstWrong : ChangeSpec := { name := "fnArcFirst", fn := fun _ => fun
  | [d] => { results := [.lit (.bool false)], args := [d] }
  | _ => none }
def FnArcFirstWrongFalsely : Prop := fnArcFirstRow.holds Try.pinned (OpenSpec.ofChange fnArcFirstWrong)

/-- 'laws.FnRuns': WHATEVER THE INPUT: true; the input reads as it did. -/
def fnRunsSpec : ChangeSpec := { name := "fnRuns", fn := fun _ => fun
  | [d] => { results := [.lit (.bool true)], args := [d] }
  | _ => none }
def fnRunsRow : OpenClaim := { program := "ytheoepbcejlncaa", sum := "9498b198684a83108cdcdb9f1ed542835419600b3f86caf83499fdc14f846f36", func := "loop.example/ringorders/laws.FnRuns", spec := "fnRuns", unfollowed := true, recurses := true, apart := false }
def FnRunsSaid : Prop := fnRunsRow.holds Try.pinned (OpenSpec.ofChange fnRunsSpec)

/-- ITS FALSE NEIGHBOUR: 'it returns false'. Refute it at one input. -/
def fnRunsWrong : ChangeSpec := { name := "fnRuns", fn := fun _ => fun
  | [d] => { results := [.lit (.bool false)], args := [d] }
  | _ => none }
def FnRunsWrongFalsely : Prop := fnRunsRow.holds Try.pinned (OpenSpec.ofChange fnRunsWrong)

/-- 'laws.FnCommon': WHATEVER THE INPUT: true; the input reads as it did. -/
def fnCommonSpec : ChangeSpec := { name := "fnCommon", fn := fun _ => fun
  | [d] => { results := [.lit (.bool true)], args := [d] }
  | _ => none }
def fnCommonRow : OpenClaim := { program := "ytheoepbcejlncaa", sum := "9498b198684a83108cdcdb9f1ed542835419600b3f86caf83499fdc14f846f36", func := "loop.example/ringorders/laws.FnCommon", spec := "fnCommon", unfollowed := true, recurses := true, apart := false }
def FnCommonSaid : Prop := fnCommonRow.holds Try.pinned (OpenSpec.ofChange fnCommonSpec)

/-- ITS FALSE NEIGHBOUR: 'it returns false'. Refute it at one input. -/
def fnCommonWrong : ChangeSpec := { name := "fnCommon", fn := fun _ => fun
  | [d] => { results := [.lit (.bool false)], args := [d] }
  | _ => none }
def FnCommonWrongFalsely : Prop := fnCommonRow.holds Try.pinned (OpenSpec.ofChange fnCommonWrong)

/-- 'laws.FnArcMost': WHATEVER THE INPUT: true; the input reads as it did. -/
def fnArcMostSpec : ChangeSpec := { name := "fnArcMost", fn := fun _ => fun
  | [d] => { results := [.lit (.bool true)], args := [d] }
  | _ => none }
def fnArcMostRow : OpenClaim := { program := "ytheoepbcejlncaa", sum := "9498b198684a83108cdcdb9f1ed542835419600b3f86caf83499fdc14f846f36", func := "loop.example/ringorders/laws.FnArcMost", spec := "fnArcMost", unfollowed := true, recurses := true, apart := false }
def FnArcMostSaid : Prop := fnArcMostRow.holds Try.pinned (OpenSpec.ofChange fnArcMostSpec)

/-- ITS FALSE NEIGHBOUR: 'it returns false'. Refute it at one input. -/
def fnArcMostWrong : ChangeSpec := { name := "fnArcMost", fn := fun _ => fun
  | [d] => { results := [.lit (.bool false)], args := [d] }
  | _ => none }
def FnArcMostWrongFalsely : Prop := fnArcMostRow.holds Try.pinned (OpenSpec.ofChange fnArcMostWrong)

/-- 'laws.FnBesideArc': WHATEVER THE INPUT: true; the input reads as it did. -/
def fnBesideArcSpec : ChangeSpec := { name := "fnBesideArc", fn := fun _ => fun
  | [d] => { results := [.lit (.bool true)], args := [d] }
  | _ => none }
def fnBesideArcRow : OpenClaim := { program := "ytheoepbcejlncaa", sum := "9498b198684a83108cdcdb9f1ed542835419600b3f86caf83499fdc14f846f36", func := "loop.example/ringorders/laws.FnBesideArc", spec := "fnBesideArc", unfollowed := true, recurses := true, apart := false }
def FnBesideArcSaid : Prop := fnBesideArcRow.holds Try.pinned (OpenSpec.ofChange fnBesideArcSpec)

/-- ITS FALSE NEIGHBOUR: 'it returns false'. Refute it at one input. -/
def fnBesideArcWrong : ChangeSpec := { name := "fnBesideArc", fn := fun _ => fun
  | [d] => { results := [.lit (.bool false)], args := [d] }
  | _ => none }
def FnBesideArcWrongFalsely : Prop := fnBesideArcRow.holds Try.pinned (OpenSpec.ofChange fnBesideArcWrong)

/- THE SECOND FORM. 'bulk': how many values and letters a reading holds, each counted each time it is reached (what is shared counts as often as it is met; a slice's spare places count too). A statement '..UptoSaid' is the law's where the arguments, and the package variables that the reading takes, are together of bulk at most 1048576: NARROWER than '..Said'. Prove '..Said' where nothing that the law and all that it calls make is longer than what came in: it says more and counts as full. Else prove '..UptoSaid'. A law counts once. -/
mutual
def uptoBulk {H : Type} : DataW H → Nat
  | .lit (.string bytes) => bytes.length + 1
  | .lit _ => 1
  | .nil => 1
  | .ptr d => uptoBulk d + 1
  | .slice elems spare => uptoBulkAll elems + uptoBulkAll spare + 1
  | .agg parts => uptoBulkAll parts + 1
  | .iface _ d => uptoBulk d + 1
  | .map entries => uptoBulkEntries entries + 1
  | .held _ => 1
def uptoBulkAll {H : Type} : List (DataW H) → Nat
  | [] => 0
  | d :: r => uptoBulk d + uptoBulkAll r
def uptoBulkEntries {H : Type} : List (Lit × DataW H) → Nat
  | [] => 0
  | x :: r => uptoBulkEntry x + uptoBulkEntries r
def uptoBulkEntry {H : Type} : Lit × DataW H → Nat
  | (.string bytes, d) => bytes.length + uptoBulk d + 1
  | (_, d) => uptoBulk d + 1
 end
def uptoSmall : (H : Type) → List (DataW H) → Bool := fun _ ds => decide (uptoBulkAll ds ≤ 1048576)
def OpenSpec.upto (s : _root_.Go.ChangeSpec) : _root_.Go.OpenSpec := { _root_.Go.OpenSpec.ofChange s with cond := some uptoSmall }

/-- 'laws.FnArc', WHERE WHAT IT READS IS OF BULK AT MOST 1048576: true; the input reads as it did. -/
def fnArcUptoRow : OpenClaim := { program := "ytheoepbcejlncaa", sum := "9498b198684a83108cdcdb9f1ed542835419600b3f86caf83499fdc14f846f36", func := "loop.example/ringorders/laws.FnArc", spec := "fnArc", unfollowed := true, recurses := true, apart := false, narrowed := true }
def FnArcUptoSaid : Prop := fnArcUptoRow.holds Try.pinned (OpenSpec.upto fnArcSpec)

/-- 'laws.FnArcAll', WHERE WHAT IT READS IS OF BULK AT MOST 1048576: true; the input reads as it did. -/
def fnArcAllUptoRow : OpenClaim := { program := "ytheoepbcejlncaa", sum := "9498b198684a83108cdcdb9f1ed542835419600b3f86caf83499fdc14f846f36", func := "loop.example/ringorders/laws.FnArcAll", spec := "fnArcAll", unfollowed := true, recurses := true, apart := false, narrowed := true }
def FnArcAllUptoSaid : Prop := fnArcAllUptoRow.holds Try.pinned (OpenSpec.upto fnArcAllSpec)

/-- 'laws.FnFamily', WHERE WHAT IT READS IS OF BULK AT MOST 1048576: true; the input reads as it did. -/
def fnFamilyUptoRow : OpenClaim := { program := "ytheoepbcejlncaa", sum := "9498b198684a83108cdcdb9f1ed542835419600b3f86caf83499fdc14f846f36", func := "loop.example/ringorders/laws.FnFamily", spec := "fnFamily", apart := false, narrowed := true }
def FnFamilyUptoSaid : Prop := fnFamilyUptoRow.holds Try.pinned (OpenSpec.upto fnFamilySpec)

/-- 'laws.FnArcRings', WHERE WHAT IT READS IS OF BULK AT MOST 1048576: true; the input reads as it did. -/
def fnArcRingsUptoRow : OpenClaim := { program := "ytheoepbcejlncaa", sum := "9498b198684a83108cdcdb9f1ed542835419600b3f86caf83499fdc14f846f36", func := "loop.example/ringorders/laws.FnArcRings", spec := "fnArcRings", unfollowed := true, recurses := true, apart := false, narrowed := true }
def FnArcRingsUptoSaid : Prop := fnArcRingsUptoRow.holds Try.pinned (OpenSpec.upto fnArcRingsSpec)

/-- 'laws.FnArcFirst', WHERE WHAT IT READS IS OF BULK AT MOST 1048576: true; the input reads as it did. -/
def fnArcFirstUptoRow : OpenClaim := { program := "ytheoepbcejlncaa", sum := "9498b198684a83108cdcdb9f1ed542835419600b3f86caf83499fdc14f846f36", func := "loop.example/ringorders/laws.FnArcFirst", spec := "fnArcFirst", unfollowed := true, recurses := true, apart := false, narrowed := true }
def FnArcFirstUptoSaid : Prop := fnArcFirstUptoRow.holds Try.pinned (OpenSpec.upto fnArcFirstSpec)

/-- 'laws.FnRuns', WHERE WHAT IT READS IS OF BULK AT MOST 1048576: true; the input reads as it did. -/
def fnRunsUptoRow : OpenClaim := { program := "ytheoepbcejlncaa", sum := "9498b198684a83108cdcdb9f1ed542835419600b3f86caf83499fdc14f846f36", func := "loop.example/ringorders/laws.FnRuns", spec := "fnRuns", unfollowed := true, recurses := true, apart := false, narrowed := true }
def FnRunsUptoSaid : Prop := fnRunsUptoRow.holds Try.pinned (OpenSpec.upto fnRunsSpec)

/-- 'laws.FnCommon', WHERE WHAT IT READS IS OF BULK AT MOST 1048576: true; the input reads as it did. -/
def fnCommonUptoRow : OpenClaim := { program := "ytheoepbcejlncaa", sum := "9498b198684a83108cdcdb9f1ed542835419600b3f86caf83499fdc14f846f36", func := "loop.example/ringorders/laws.FnCommon", spec := "fnCommon", unfollowed := true, recurses := true, apart := false, narrowed := true }
def FnCommonUptoSaid : Prop := fnCommonUptoRow.holds Try.pinned (OpenSpec.upto fnCommonSpec)

/-- 'laws.FnArcMost', WHERE WHAT IT READS IS OF BULK AT MOST 1048576: true; the input reads as it did. -/
def fnArcMostUptoRow : OpenClaim := { program := "ytheoepbcejlncaa", sum := "9498b198684a83108cdcdb9f1ed542835419600b3f86caf83499fdc14f846f36", func := "loop.example/ringorders/laws.FnArcMost", spec := "fnArcMost", unfollowed := true, recurses := true, apart := false, narrowed := true }
def FnArcMostUptoSaid : Prop := fnArcMostUptoRow.holds Try.pinned (OpenSpec.upto fnArcMostSpec)

/-- 'laws.FnBesideArc', WHERE WHAT IT READS IS OF BULK AT MOST 1048576: true; the input reads as it did. -/
def fnBesideArcUptoRow : OpenClaim := { program := "ytheoepbcejlncaa", sum := "9498b198684a83108cdcdb9f1ed542835419600b3f86caf83499fdc14f846f36", func := "loop.example/ringorders/laws.FnBesideArc", spec := "fnBesideArc", unfollowed := true, recurses := true, apart := false, narrowed := true }
def FnBesideArcUptoSaid : Prop := fnBesideArcUptoRow.holds Try.pinned (OpenSpec.upto fnBesideArcSpec)

end Rows
end Go.Proofs.Ytheoepbcejlncaa
