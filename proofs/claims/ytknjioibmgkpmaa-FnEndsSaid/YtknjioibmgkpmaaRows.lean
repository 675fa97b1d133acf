/-
  No cell of these rows narrows 'for every input' (looked for: loops, veiled, ifaces, maps, wideKeys, modest, calm, conditions, laid).
  DERIVED. THE GIVEN ROWS OF THIS SEAT. 10 by the template 'for every input the law returns true; each argument reads behind the call as it read before'; 0 by the template 'total and deterministic' (their statements: YtknjioibmgkpmaaTotals.lean).
  GIVEN WITH THE SEED: the statements are not yours to turn. If you find one false, say at which input.
  Laid BY PROGRAM, IN A SANDBOX (cutbox-rows.mjs): the forced cells as the released guide's own fill.sh prints them over the translation 092924b54463eb00… (all of the seat's roots in one cut). By AI agents, Wed Nov 11 2026. No macro, syntax, notation, axiom, sorry.
-/
import Derived.Test.YtknjioibmgkpmaaChecked
import GoSem.Claim
import GoSem.ClaimJoined
import GoSem.ClaimMapViews
import Derived.JoinedTies
import Derived.KernelRfl
namespace Go.Proofs.Ytknjioibmgkpmaa
/- THE CELL 'sum', in the pinned program and in every row, IS THE sha256 OF THE DUMP (.gsa) THAT YtknjioibmgkpmaaProg.lean LOADS. Nothing in Lean hashes anything: it is a label: what it is worth is what the hold of that sum in a sandbox is worth. -/
noncomputable def Try.pinned : Pinned := { name := "ytknjioibmgkpmaa", sum := "092924b54463eb00880558a38d84b6f559fa2cddfd3500c1d8cf8d21960754f6", checked := Try.checked }
namespace Rows
def none {H : Type} : Left H := { results := [], args := [] }

/-- 'laws.FnEnds': WHATEVER THE INPUT: true; the input reads as it did. -/
def fnEndsSpec : ChangeSpec := { name := "fnEnds", fn := fun _ => fun
  | [d] => { results := [.lit (.bool true)], args := [d] }
  | _ => none }
def fnEndsRow : OpenClaim := { program := "ytknjioibmgkpmaa", sum := "092924b54463eb00880558a38d84b6f559fa2cddfd3500c1d8cf8d21960754f6", func := "loop.example/ringorders/laws.FnEnds", spec := "fnEnds", unfollowed := true, recurses := true, apart := false }
def FnEndsSaid : Prop := fnEndsRow.holds Try.pinned (OpenSpec.ofChange fnEndsSpec)

/-- ITS FALSE NEIGHBOUR: 'it returns false'. Refute it at one input. -/
def fnEndsWrong : ChangeSpec := { name := "fnEnds", fn := fun _ => fun
  | [d] => { results := [.lit (.bool false)], args := [d] }
  | _ => none }
def FnEndsWrongFalsely : Prop := fnEndsRow.holds Try.pinned (OpenSpec.ofChange fnEndsWrong)

/-- 'laws.FnExactArcIs': WHATEVER THE INPUT: true; the input reads as it did. -/
def fnExactArcIsSpec : ChangeSpec := { name := "fnExactArcIs", fn := fun _ => fun
  | [d1, d2] => { results := [.lit (.bool true)], args := [d1, d2] }
  | _ => none }
def fnExactArcIsRow : OpenClaim := { program := "ytknjioibmgkpmaa", sum := "092924b54463eb00880558a38d84b6f559fa2cddfd3500c1d8cf8d21960754f6", func := "loop.example/ringorders/laws.FnExactArcIs", spec := "fnExactArcIs", unfollowed := true, recurses := true, apart := false }
def FnExactArcIsSaid : Prop := fnExactArcIsRow.holds Try.pinned (OpenSpec.ofChange fnExactArcIsSpec)

/-- ITS FALSE NEIGHBOUR: 'it returns false'. Refute it at one input. -/
def fnExactArcIsWrong : ChangeSpec := { name := "fnExactArcIs", fn := fun _ => fun
  | [d1, d2] => { results := [.lit (.bool false)], args := [d1, d2] }
  | _ => none }
def FnExactArcIsWrongFalsely : Prop := fnExactArcIsRow.holds Try.pinned (OpenSpec.ofChange fnExactArcIsWrong)

/-- 'laws.FnExactArcAll': WHATEVER THE INPUT: true; the input reads as it did. -/
def fnExactArcAllSpec : ChangeSpec := { name := "fnExactArcAll", fn := fun _ => fun
  | [d] => { results := [.lit (.bool true)], args := [d] }
  | _ => none }
def fnExactArcAllRow : OpenClaim := { program := "ytknjioibmgkpmaa", sum := "092924b54463eb00880558a38d84b6f559fa2cddfd3500c1d8cf8d21960754f6", func := "loop.example/ringorders/laws.FnExactArcAll", spec := "fnExactArcAll", unfollowed := true, recurses := true, apart := false }
def FnExactArcAllSaid : Prop := fnExactArcAllRow.holds Try.pinned (OpenSpec.ofChange fnExactArcAllSpec)

/-- ITS FALSE NEIGHBOUR: 'it returns false'. Refute it at one input. -/
def fnExactArcAllWrong : ChangeSpec := { name := "fnExactArcAll", fn := fun _ => fun
  | [d] => { results := [.lit (.bool false)], args := [d] }
  | _ => none }
def FnExactArcAllWrongFalsely : Prop := fnExactArcAllRow.holds Try.pinned (OpenSpec.ofChange fnExactArcAllWrong)

/-- 'laws.FnExactArcFamily': WHATEVER THE INPUT: true; the input reads as it did. -/
def fnExactArcFamilySpec : ChangeSpec := { name := "fnExactArcFamily", fn := fun _ => fun
  | [d1, d2] => { results := [.lit (.bool true)], args := [d1, d2] }
  | _ => none }
def fnExactArcFamilyRow : OpenClaim := { program := "ytknjioibmgkpmaa", sum := "092924b54463eb00880558a38d84b6f559fa2cddfd3500c1d8cf8d21960754f6", func := "loop.example/ringorders/laws.FnExactArcFamily", spec := "fnExactArcFamily", apart := false }
def FnExactArcFamilySaid : Prop := fnExactArcFamilyRow.holds Try.pinned (OpenSpec.ofChange fnExactArcFamilySpec)

/-- ITS FALSE NEIGHBOUR: 'it returns false'. Refute it at one input. -/
def fnExactArcFamilyWrong : ChangeSpec := { name := "fnExactArcFamily", fn := fun _ => fun
  | [d1, d2] => { results := [.lit (.bool false)], args := [d1, d2] }
  | _ => none }
def FnExactArcFamilyWrongFalsely : Prop := fnExactArcFamilyRow.holds Try.pinned (OpenSpec.ofChange fnExactArcFamilyWrong)

/-- 'laws.FnExactArcRings': WHATEVER THE INPUT: true; the input reads as it did. -/
def fnExactArcRingsSpec : ChangeSpec := { name := "fnExactArcRings", fn := fun _ => fun
  | [d1, d2] => { results := [.lit (.bool true)], args := [d1, d2] }
  | _ => none }
def fnExactArcRingsRow : OpenClaim := { program := "ytknjioibmgkpmaa", sum := "092924b54463eb00880558a38d84b6f559fa2cddfd3500c1d8cf8d21960754f6", func := "loop.example/ringorders/laws.FnExactArcRings", spec := "fnExactArcRings", unfollowed := true, recurses := true, apart := false }
def FnExactArcRingsSaid : Prop := fnExactArcRingsRow.holds Try.pinned (OpenSpec.ofChange fnExactArcRingsSpec)

/-- ITS FALSE NEIGHBOUR: 'it returns false'. Refute it at one input. -/
def fnExactArcRingsWrong : ChangeSpec := { name := "fnExactArcRings", fn := fun _ => fun
  | [d1, d2] => { results := [.lit (.bool false)], args := [d1, d2] }
  | _ => none }
def FnExactArcRingsWrongFalsely : Prop := fnExactArcRingsRow.holds Try.pinned (OpenSpec.ofChange fnExactArcRingsWrong)

/-- 'laws.FnExactArcFirst': WHATEVER THE INPUT: true; the input reads as it did. -/
def fnExactArcFirstSpec : ChangeSpec := { name := "fnExactArcFirst", fn := fun _ => fun
  | [d1, d2] => { results := [.lit (.bool true)], args := [d1, d2] }
  | _ => none }
def fnExactArcFirstRow : OpenClaim := { program := "ytknjioibmgkpmaa", sum := "092924b54463eb00880558a38d84b6f559fa2cddfd3500c1d8cf8d21960754f6", func := "loop.example/ringorders/laws.FnExactArcFirst", spec := "fnExactArcFirst", unfollowed := true, recurses := true, apart := false }
def FnExactArcFirstSaid : Prop := fnExactArcFirstRow.holds Try.pinned (OpenSpec.ofChange fnExactArcFirstSpec)

/-- ITS FALSE NEIGHBOUR: 'it returns false'. Refute it at one input. -/
def fnExactArcFirstWrong : ChangeSpec := { name := "fnExactArcFirst", fn := fun _ => fun
  | [d1, d2] => { results := [.lit (.bool false)], args := [d1, d2] }
  | _ => none }
def FnExactArcFirstWrongFalsely : Prop := fnExactArcFirstRow.holds Try.pinned (OpenSpec.ofChange fnExactArcFirstWrong)

/-- 'laws.FnExactArcRuns': WHATEVER THE INPUT: true; the input reads as it did. -/
def fnExactArcRunsSpec : ChangeSpec := { name := "fnExactArcRuns", fn := fun _ => fun
  | [d1, d2] => { results := [.lit (.bool true)], args := [d1, d2] }
  | _ => none }
def fnExactArcRunsRow : OpenClaim := { program := "ytknjioibmgkpmaa", sum := "092924b54463eb00880558a38d84b6f559fa2cddfd3500c1d8cf8d21960754f6", func := "loop.example/ringorders/laws.FnExactArcRuns", spec := "fnExactArcRuns", unfollowed := true, recurses := true, apart := false }
def FnExactArcRunsSaid : Prop := fnExactArcRunsRow.holds Try.pinned (OpenSpec.ofChange fnExactArcRunsSpec)

/-- ITS FALSE NEIGHBOUR: 'it returns false'. Refute it at one input. -/
def fnExactArcRunsWrong : ChangeSpec := { name := "fnExactArcRuns", fn := fun _ => fun
  | [d1, d2] => { results := [.lit (.bool false)], args := [d1, d2] }
  | _ => none }
def FnExactArcRunsWrongFalsely : Prop := fnExactArcRunsRow.holds Try.pinned (OpenSpec.ofChange fnExactArcRunsWrong)

/-- 'laws.FnExactArcEnds': WHATEVER THE INPUT: true; the input reads as it did. -/
def fnExactArcEndsSpec : ChangeSpec := { name := "fnExactArcEnds", fn := fun _ => fun
  | [d1, d2] => { results := [.lit (.bool true)], args := [d1, d2] }
  | _ => none }
def fnExactArcEndsRow : OpenClaim := { program := "ytknjioibmgkpmaa", sum := "092924b54463eb00880558a38d84b6f559fa2cddfd3500c1d8cf8d21960754f6", func := "loop.example/ringorders/laws.FnExactArcEnds", spec := "fnExactArcEnds", unfollowed := true, recurses := true, apart := false }
def FnExactArcEndsSaid : Prop := fnExactArcEndsRow.holds Try.pinned (OpenSpec.ofChange fnExactArcEndsSpec)

/-- ITS FALSE NEIGHBOUR: 'it returns false'. Refute it at one input. -/
def fnExactArcEndsWrong : ChangeSpec := { name := "fnExactArcEnds", fn := fun _ => fun
  | [d1, d2] => { results := [.lit (.bool false)], args := [d1, d2] }
  | _ => none }
def FnExactArcEndsWrongFalsely : Prop := fnExactArcEndsRow.holds Try.pinned (OpenSpec.ofChange fnExactArcEndsWrong)

/-- 'laws.FnExactArcCommon': WHATEVER THE INPUT: true; the input reads as it did. -/
def fnExactArcCommonSpec : ChangeSpec := { name := "fnExactArcCommon", fn := fun _ => fun
  | [d1, d2] => { results := [.lit (.bool true)], args := [d1, d2] }
  | _ => none }
def fnExactArcCommonRow : OpenClaim := { program := "ytknjioibmgkpmaa", sum := "092924b54463eb00880558a38d84b6f559fa2cddfd3500c1d8cf8d21960754f6", func := "loop.example/ringorders/laws.FnExactArcCommon", spec := "fnExactArcCommon", unfollowed := true, recurses := true, apart := false }
def FnExactArcCommonSaid : Prop := fnExactArcCommonRow.holds Try.pinned (OpenSpec.ofChange fnExactArcCommonSpec)

/-- ITS FALSE NEIGHBOUR: 'it returns false'. Refute it at one input. -/
def fnExactArcCommonWrong : ChangeSpec := { name := "fnExactArcCommon", fn := fun _ => fun
  | [d1, d2] => { results := [.lit (.bool false)], args := [d1, d2] }
  | _ => none }
def FnExactArcCommonWrongFalsely : Prop := fnExactArcCommonRow.holds Try.pinned (OpenSpec.ofChange fnExactArcCommonWrong)

/-- 'laws.FnExactArcMost': WHATEVER THE INPUT: true; the input reads as it did. -/
def fnExactArcMostSpec : ChangeSpec := { name := "fnExactArcMost", fn := fun _ => fun
  | [d1, d2] => { results := [.lit (.bool true)], args := [d1, d2] }
  | _ => none }
def fnExactArcMostRow : OpenClaim := { program := "ytknjioibmgkpmaa", sum := "092924b54463eb00880558a38d84b6f559fa2cddfd3500c1d8cf8d21960754f6", func := "loop.example/ringorders/laws.FnExactArcMost", spec := "fnExactArcMost", unfollowed := true, recurses := true, apart := false }
def FnExactArcMostSaid : Prop := fnExactArcMostRow.holds Try.pinned (OpenSpec.ofChange fnExactArcMostSpec)

/-- ITS FALSE NEIGHBOUR: 'it returns false'. Refute it at one input. -/
def fnExactArcMostWrong : ChangeSpec := { name := "fnExactArcMost", fn := fun _ => fun
  | [d1, d2] => { results := [.lit (.bool false)], args := [d1, d2] }
  | _ => none }
def FnExactArcMostWrongFalsely : Prop := fnExactArcMostRow.holds Try.pinned (OpenSpec.ofChange fnExactArcMostWrong)

/- THE SECOND FORM. 'bulk': how many values and letters a reading holds, each counted each time it is reached (what is shared counts as often as it is met; a slice's spare places count too). A statement '..UptoSaid' is the law's where the arguments, and the package variables that the reading takes, are together of bulk at most 1048576: NARROWER than '..Said'. Prove '..Said' where nothing that the law and all that it calls make is longer than what came in: it says more and counts as full. Else prove '..UptoSaid'. A law counts once. -/
mutual
def uptoBulk {H : Type} : DataW H → Nat
  | .lit (.string bytes) => bytes.length + 1
  | .lit _ => 1
  | .nil => 1
  | .ptr d => uptoBulk d + 1
  | .slice elems spare => uptoBulkAll elems + uptoBulkAll spare + 1
  | .agg parts => uptoBulkAll parts + 1
  | .iface _ d => uptoBulk d + 1
  | .map entries => uptoBulkEntries entries + 1
  | .held _ => 1
def uptoBulkAll {H : Type} : List (DataW H) → Nat
  | [] => 0
  | d :: r => uptoBulk d + uptoBulkAll r
def uptoBulkEntries {H : Type} : List (Lit × DataW H) → Nat
  | [] => 0
  | x :: r => uptoBulkEntry x + uptoBulkEntries r
def uptoBulkEntry {H : Type} : Lit × DataW H → Nat
  | (.string bytes, d) => bytes.length + uptoBulk d + 1
  | (_, d) => uptoBulk d + 1
 end
def uptoSmall : (H : Type) → List (DataW H) → Bool := fun _ ds => decide (uptoBulkAll ds ≤ 1048576)
def OpenSpec.upto (s : _root_.Go.ChangeSpec) : _root_.Go.OpenSpec := { _root_.Go.OpenSpec.ofChange s with cond := some uptoSmall }

/-- 'laws.FnEnds', WHERE WHAT IT READS IS OF BULK AT MOST 1048576: true; the input reads as it did. -/
def fnEndsUptoRow : OpenClaim := { program := "ytknjioibmgkpmaa", sum := "092924b54463eb00880558a38d84b6f559fa2cddfd3500c1d8cf8d21960754f6", func := "loop.example/ringorders/laws.FnEnds", spec := "fnEnds", unfollowed := true, recurses := true, apart := false, narrowed := true }
def FnEndsUptoSaid : Prop := fnEndsUptoRow.holds Try.pinned (OpenSpec.upto fnEndsSpec)

/-- 'laws.FnExactArcIs', WHERE WHAT IT READS IS OF BULK AT MOST 1048576: true; the input reads as it did. -/
def fnExactArcIsUptoRow : OpenClaim := { program := "ytknjioibmgkpmaa", sum := "092924b54463eb00880558a38d84b6f559fa2cddfd3500c1d8cf8d21960754f6", func := "loop.example/ringorders/laws.FnExactArcIs", spec := "fnExactArcIs", unfollowed := true, recurses := true, apart := false, narrowed := true }
def FnExactArcIsUptoSaid : Prop := fnExactArcIsUptoRow.holds Try.pinned (OpenSpec.upto fnExactArcIsSpec)

/-- 'laws.FnExactArcAll', WHERE WHAT IT READS IS OF BULK AT MOST 1048576: true; the input reads as it did. -/
def fnExactArcAllUptoRow : OpenClaim := { program := "ytknjioibmgkpmaa", sum := "092924b54463eb00880558a38d84b6f559fa2cddfd3500c1d8cf8d21960754f6", func := "loop.example/ringorders/laws.FnExactArcAll", spec := "fnExactArcAll", unfollowed := true, recurses := true, apart := false, narrowed := true }
def FnExactArcAllUptoSaid : Prop := fnExactArcAllUptoRow.holds Try.pinned (OpenSpec.upto fnExactArcAllSpec)

/-- 'laws.FnExactArcFamily', WHERE WHAT IT READS IS OF BULK AT MOST 1048576: true; the input reads as it did. -/
def fnExactArcFamilyUptoRow : OpenClaim := { program := "ytknjioibmgkpmaa", sum := "092924b54463eb00880558a38d84b6f559fa2cddfd3500c1d8cf8d21960754f6", func := "loop.example/ringorders/laws.FnExactArcFamily", spec := "fnExactArcFamily", apart := false, narrowed := true }
def FnExactArcFamilyUptoSaid : Prop := fnExactArcFamilyUptoRow.holds Try.pinned (OpenSpec.upto fnExactArcFamilySpec)

/-- 'laws.FnExactArcRings', WHERE WHAT IT READS IS OF BULK AT MOST 1048576: true; the input reads as it did. -/
def fnExactArcRingsUptoRow : OpenClaim := { program := "ytknjioibmgkpmaa", sum := "092924b54463eb00880558a38d84b6f559fa2cddfd3500c1d8cf8d21960754f6", func := "loop.example/ringorders/laws.FnExactArcRings", spec := "fnExactArcRings", unfollowed := true, recurses := true, apart := false, narrowed := true }
def FnExactArcRingsUptoSaid : Prop := fnExactArcRingsUptoRow.holds Try.pinned (OpenSpec.upto fnExactArcRingsSpec)

/-- 'laws.FnExactArcFirst', WHERE WHAT IT READS IS OF BULK AT MOST 1048576: true; the input reads as it did. -/
def fnExactArcFirstUptoRow : OpenClaim := { program := "ytknjioibmgkpmaa", sum := "092924b54463eb00880558a38d84b6f559fa2cddfd3500c1d8cf8d21960754f6", func := "loop.example/ringorders/laws.FnExactArcFirst", spec := "fnExactArcFirst", unfollowed := true, recurses := true, apart := false, narrowed := true }
def FnExactArcFirstUptoSaid : Prop := fnExactArcFirstUptoRow.holds Try.pinned (OpenSpec.upto fnExactArcFirstSpec)

/-- 'laws.FnExactArcRuns', WHERE WHAT IT READS IS OF BULK AT MOST 1048576: true; the input reads as it did. -/
def fnExactArcRunsUptoRow : OpenClaim := { program := "ytknjioibmgkpmaa", sum := "092924b54463eb00880558a38d84b6f559fa2cddfd3500c1d8cf8d21960754f6", func := "loop.example/ringorders/laws.FnExactArcRuns", spec := "fnExactArcRuns", unfollowed := true, recurses := true, apart := false, narrowed := true }
def FnExactArcRunsUptoSaid : Prop := fnExactArcRunsUptoRow.holds Try.pinned (OpenSpec.upto fnExactArcRunsSpec)

/-- 'laws.FnExactArcEnds', WHERE WHAT IT READS IS OF BULK AT MOST 1048576: true; the input reads as it did. -/
def fnExactArcEndsUptoRow : OpenClaim := { program := "ytknjioibmgkpmaa", sum := "092924b54463eb00880558a38d84b6f559fa2cddfd3500c1d8cf8d21960754f6", func := "loop.example/ringorders/laws.FnExactArcEnds", spec := "fnExactArcEnds", unfollowed := true, recurses := true, apart := false, narrowed := true }
def FnExactArcEndsUptoSaid : Prop := fnExactArcEndsUptoRow.holds Try.pinned (OpenSpec.upto fnExactArcEndsSpec)

/-- 'laws.FnExactArcCommon', WHERE WHAT IT READS IS OF BULK AT MOST 1048576: true; the input reads as it did. -/
def fnExactArcCommonUptoRow : OpenClaim := { program := "ytknjioibmgkpmaa", sum := "092924b54463eb00880558a38d84b6f559fa2cddfd3500c1d8cf8d21960754f6", func := "loop.example/ringorders/laws.FnExactArcCommon", spec := "fnExactArcCommon", unfollowed := true, recurses := true, apart := false, narrowed := true }
def FnExactArcCommonUptoSaid : Prop := fnExactArcCommonUptoRow.holds Try.pinned (OpenSpec.upto fnExactArcCommonSpec)

/-- 'laws.FnExactArcMost', WHERE WHAT IT READS IS OF BULK AT MOST 1048576: true; the input reads as it did. -/
def fnExactArcMostUptoRow : OpenClaim := { program := "ytknjioibmgkpmaa", sum := "092924b54463eb00880558a38d84b6f559fa2cddfd3500c1d8cf8d21960754f6", func := "loop.example/ringorders/laws.FnExactArcMost", spec := "fnExactArcMost", unfollowed := true, recurses := true, apart := false, narrowed := true }
def FnExactArcMostUptoSaid : Prop := fnExactArcMostUptoRow.holds Try.pinned (OpenSpec.upto fnExactArcMostSpec)

end Rows
end Go.Proofs.Ytknjioibmgkpmaa
