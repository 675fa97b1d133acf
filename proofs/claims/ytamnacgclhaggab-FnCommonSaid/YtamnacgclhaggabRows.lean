/-
  No cell of these rows narrows 'for every input' (looked for: loops, veiled, ifaces, maps, wideKeys, modest, calm, conditions, laid).
  DERIVED. THE GIVEN ROWS OF THIS SEAT. 9 by the template 'for every input the law returns true; each argument reads behind the call as it read before'; 0 by the template 'total and deterministic' (their statements: YtamnacgclhaggabTotals.lean).
  GIVEN WITH THE SEED: the statements are not yours to turn. If you find one false, say at which input.
  Laid BY PROGRAM, IN A SANDBOX (cutbox-rows.mjs): the forced cells as the released guide's own fill.sh prints them over the translation 054e0e92e5fed372… (all of the seat's roots in one cut). By AI agents, Wed Nov 11 2026. No macro, syntax, notation, axiom, sorry.
-/
import Derived.Test.YtamnacgclhaggabChecked
import GoSem.Claim
import GoSem.ClaimJoined
import GoSem.ClaimMapViews
import Derived.JoinedTies
import Derived.KernelRfl
namespace Go.Proofs.Ytamnacgclhaggab
/- THE CELL 'sum', in the pinned program and in every row, IS THE sha256 OF THE DUMP (.gsa) THAT YtamnacgclhaggabProg.lean LOADS. Nothing in Lean hashes anything: it is a label: what it is worth is what the hold of that sum in a sandbox is worth. -/
noncomputable def Try.pinned : Pinned := { name := "ytamnacgclhaggab", sum := "054e0e92e5fed372806a3021777aa399a2bd0ec667b9fb9aa541e4f29a41c7e4", checked := Try.checked }
namespace Rows
def none {H : Type} : Left H := { results := [], args := [] }

/-- 'laws.FnPairAll': WHATEVER THE INPUT: true; the input reads as it did. -/
def fnPairAllSpec : ChangeSpec := { name := "fnPairAll", fn := fun _ => fun
  | [d] => { results := [.lit (.bool true)], args := [d] }
  | _ => none }
def fnPairAllRow : OpenClaim := { program := "ytamnacgclhaggab", sum := "054e0e92e5fed372806a3021777aa399a2bd0ec667b9fb9aa541e4f29a41c7e4", func := "loop.example/ringorders/laws.FnPairAll", spec := "fnPairAll", unfollowed := true, recurses := true, apart := false }
def FnPairAllSaid : Prop := fnPairAllRow.holds Try.pinned (OpenSpec.ofChange fnPairAllSpec)

/-- ITS FALSE NEIGHBOUR: 'it returns false'. Refute it at one input. -/
def fnPairAllWrong : ChangeSpec := { name := "fnPairAll", fn := fun _ => fun
  | [d] => { results := [.lit (.bool false)], args := [d] }
  | _ => none }
def FnPairAllWrongFalsely : Prop := fnPairAllRow.holds Try.pinned (OpenSpec.ofChange fnPairAllWrong)

/-- 'laws.FnPairRings': WHATEVER THE INPUT: true; the input reads as it did. -/
def fnPairRingsSpec : ChangeSpec := { name := "fnPairRings", fn := fun _ => fun
  | [d] => { results := [.lit (.bool true)], args := [d] }
  | _ => none }
def fnPairRingsRow : OpenClaim := { program := "ytamnacgclhaggab", sum := "054e0e92e5fed372806a3021777aa399a2bd0ec667b9fb9aa541e4f29a41c7e4", func := "loop.example/ringorders/laws.FnPairRings", spec := "fnPairRings", unfollowed := true, recurses := true, apart := false }
def FnPairRingsSaid : Prop := fnPairRingsRow.holds Try.pinned (OpenSpec.ofChange fnPairRingsSpec)

/-- ITS FALSE NEIGHBOUR: 'it returns false'. Refute it at one input. -/
def fnPairRingsWrong : ChangeSpec := { name := "fnPairRings", fn := fun _ => fun
  | [d] => { results := [.lit (.bool false)], args := [d] }
  | _ => none }
def FnPairRingsWrongFalsely : Prop := fnPairRingsRow.holds Try.pinned (OpenSpec.ofChange fnPairRingsWrong)

/-- 'laws.FnPairFirst': WHATEVER THE INPUT: true; the input reads as it did. -/
def fnPairFirstSpec : ChangeSpec := { name := "fnPairFirst", fn := fun _ => fun
  | [d] => { results := [.lit (.bool true)], args := [d] }
  | _ => none }
def fnPairFirstRow : OpenClaim := { program := "ytamnacgclhaggab", sum := "054e0e92e5fed372806a3021777aa399a2bd0ec667b9fb9aa541e4f29a41c7e4", func := "loop.example/ringorders/laws.FnPairFirst", spec := "fnPairFirst", unfollowed := true, recurses := true, apart := false }
def FnPairFirstSaid : Prop := fnPairFirstRow.holds Try.pinned (OpenSpec.ofChange fnPairFirstSpec)

/-- ITS FALSE NEIGHBOUR: 'it returns false'. Refute it at one input. -/
def fnPairFirstWrong : ChangeSpec := { name := "fnPairFirst", fn := fun _ => fun
  | [d] => { results := [.lit (.bool false)], args := [d] }
  | _ => none }
def FnPairFirstWrongFalsely : Prop := fnPairFirstRow.holds Try.pinned (OpenSpec.ofChange fnPairFirstWrong)

/-- 'laws.FnPairSame': WHATEVER THE INPUT: true; the input reads as it did. -/
def fnPairSameSpec : ChangeSpec := { name := "fnPairSame", fn := fun _ => fun
  | [d] => { results := [.lit (.bool true)], args := [d] }
  | _ => none }
def fnPairSameRow : OpenClaim := { program := "ytamnacgclhaggab", sum := "054e0e92e5fed372806a3021777aa399a2bd0ec667b9fb9aa541e4f29a41c7e4", func := "loop.example/ringorders/laws.FnPairSame", spec := "fnPairSame", unfollowed := true, recurses := true, apart := false }
def FnPairSameSaid : Prop := fnPairSameRow.holds Try.pinned (OpenSpec.ofChange fnPairSameSpec)

/-- ITS FALSE NEIGHBOUR: 'it returns false'. Refute it at one input. -/
def fnPairSameWrong : ChangeSpec := { name := "fnPairSame", fn := fun _ => fun
  | [d] => { results := [.lit (.bool false)], args := [d] }
  | _ => none }
def FnPairSameWrongFalsely : Prop := fnPairSameRow.holds Try.pinned (OpenSpec.ofChange fnPairSameWrong)

/-- 'laws.FnSwapAt': WHATEVER THE INPUT: true; the input reads as it did. -/
def fnSwapAtSpec : ChangeSpec := { name := "fnSwapAt", fn := fun _ => fun
  | [d] => { results := [.lit (.bool true)], args := [d] }
  | _ => none }
def fnSwapAtRow : OpenClaim := { program := "ytamnacgclhaggab", sum := "054e0e92e5fed372806a3021777aa399a2bd0ec667b9fb9aa541e4f29a41c7e4", func := "loop.example/ringorders/laws.FnSwapAt", spec := "fnSwapAt", apart := false }
def FnSwapAtSaid : Prop := fnSwapAtRow.holds Try.pinned (OpenSpec.ofChange fnSwapAtSpec)

/-- ITS FALSE NEIGHBOUR: 'it returns false'. Refute it at one input. -/
def fnSwapAtWrong : ChangeSpec := { name := "fnSwapAt", fn := fun _ => fun
  | [d] => { results := [.lit (.bool false)], args := [d] }
  | _ => none }
def FnSwapAtWrongFalsely : Prop := fnSwapAtRow.holds Try.pinned (OpenSpec.ofChange fnSwapAtWrong)

/-- 'laws.FnNear': WHATEVER THE INPUT: true; the input reads as it did. -/
def fnNearSpec : ChangeSpec := { name := "fnNear", fn := fun _ => fun
  | [d] => { results := [.lit (.bool true)], args := [d] }
  | _ => none }
def fnNearRow : OpenClaim := { program := "ytamnacgclhaggab", sum := "054e0e92e5fed372806a3021777aa399a2bd0ec667b9fb9aa541e4f29a41c7e4", func := "loop.example/ringorders/laws.FnNear", spec := "fnNear", recurses := true, apart := false }
def FnNearSaid : Prop := fnNearRow.holds Try.pinned (OpenSpec.ofChange fnNearSpec)

/-- ITS FALSE NEIGHBOUR: 'it returns false'. Refute it at one input. -/
def fnNearWrong : ChangeSpec := { name := "fnNear", fn := fun _ => fun
  | [d] => { results := [.lit (.bool false)], args := [d] }
  | _ => none }
def FnNearWrongFalsely : Prop := fnNearRow.holds Try.pinned (OpenSpec.ofChange fnNearWrong)

/-- 'laws.FnDiffer': WHATEVER THE INPUT: true; the input reads as it did. -/
def fnDifferSpec : ChangeSpec := { name := "fnDiffer", fn := fun _ => fun
  | [d] => { results := [.lit (.bool true)], args := [d] }
  | _ => none }
def fnDifferRow : OpenClaim := { program := "ytamnacgclhaggab", sum := "054e0e92e5fed372806a3021777aa399a2bd0ec667b9fb9aa541e4f29a41c7e4", func := "loop.example/ringorders/laws.FnDiffer", spec := "fnDiffer", apart := false }
def FnDifferSaid : Prop := fnDifferRow.holds Try.pinned (OpenSpec.ofChange fnDifferSpec)

/-- ITS FALSE NEIGHBOUR: 'it returns false'. Refute it at one input. -/
def fnDifferWrong : ChangeSpec := { name := "fnDiffer", fn := fun _ => fun
  | [d] => { results := [.lit (.bool false)], args := [d] }
  | _ => none }
def FnDifferWrongFalsely : Prop := fnDifferRow.holds Try.pinned (OpenSpec.ofChange fnDifferWrong)

/-- 'laws.FnDifferNamed': WHATEVER THE INPUT: true; the input reads as it did. -/
def fnDifferNamedSpec : ChangeSpec := { name := "fnDifferNamed", fn := fun _ => fun
  | [d] => { results := [.lit (.bool true)], args := [d] }
  | _ => none }
def fnDifferNamedRow : OpenClaim := { program := "ytamnacgclhaggab", sum := "054e0e92e5fed372806a3021777aa399a2bd0ec667b9fb9aa541e4f29a41c7e4", func := "loop.example/ringorders/laws.FnDifferNamed", spec := "fnDifferNamed", apart := false }
def FnDifferNamedSaid : Prop := fnDifferNamedRow.holds Try.pinned (OpenSpec.ofChange fnDifferNamedSpec)

/-- ITS FALSE NEIGHBOUR: 'it returns false'. Refute it at one input. -/
def fnDifferNamedWrong : ChangeSpec := { name := "fnDifferNamed", fn := fun _ => fun
  | [d] => { results := [.lit (.bool false)], args := [d] }
  | _ => none }
def FnDifferNamedWrongFalsely : Prop := fnDifferNamedRow.holds Try.pinned (OpenSpec.ofChange fnDifferNamedWrong)

/-- 'laws.FnCommon': WHATEVER THE INPUT: true; the input reads as it did. -/
def fnCommonSpec : ChangeSpec := { name := "fnCommon", fn := fun _ => fun
  | [d] => { results := [.lit (.bool true)], args := [d] }
  | _ => none }
def fnCommonRow : OpenClaim := { program := "ytamnacgclhaggab", sum := "054e0e92e5fed372806a3021777aa399a2bd0ec667b9fb9aa541e4f29a41c7e4", func := "loop.example/ringorders/laws.FnCommon", spec := "fnCommon", unfollowed := true, recurses := true, apart := false }
def FnCommonSaid : Prop := fnCommonRow.holds Try.pinned (OpenSpec.ofChange fnCommonSpec)

/-- ITS FALSE NEIGHBOUR: 'it returns false'. Refute it at one input. -/
def fnCommonWrong : ChangeSpec := { name := "fnCommon", fn := fun _ => fun
  | [d] => { results := [.lit (.bool false)], args := [d] }
  | _ => none }
def FnCommonWrongFalsely : Prop := fnCommonRow.holds Try.pinned (OpenSpec.ofChange fnCommonWrong)

/- THE SECOND FORM. 'bulk': how many values and letters a reading holds, each counted each time it is reached (what is shared counts as often as it is met; a slice's spare places count too). A statement '..UptoSaid' is the law's where the arguments, and the package variables that the reading takes, are together of bulk at most 1048576: NARROWER than '..Said'. Prove '..Said' where nothing that the law and all that it calls make is longer than what came in: it says more and counts as full. Else prove '..UptoSaid'. A law counts once. -/
mutual
def uptoBulk {H : Type} : DataW H → Nat
  | .lit (.string bytes) => bytes.length + 1
  | .lit _ => 1
  | .nil => 1
  | .ptr d => uptoBulk d + 1
  | .slice elems spare => uptoBulkAll elems + uptoBulkAll spare + 1
  | .agg parts => uptoBulkAll parts + 1
  | .iface _ d => uptoBulk d + 1
  | .map entries => uptoBulkEntries entries + 1
  | .held _ => 1
def uptoBulkAll {H : Type} : List (DataW H) → Nat
  | [] => 0
  | d :: r => uptoBulk d + uptoBulkAll r
def uptoBulkEntries {H : Type} : List (Lit × DataW H) → Nat
  | [] => 0
  | x :: r => uptoBulkEntry x + uptoBulkEntries r
def uptoBulkEntry {H : Type} : Lit × DataW H → Nat
  | (.string bytes, d) => bytes.length + uptoBulk d + 1
  | (_, d) => uptoBulk d + 1
 end
def uptoSmall : (H : Type) → List (DataW H) → Bool := fun _ ds => decide (uptoBulkAll ds ≤ 1048576)
def OpenSpec.upto (s : _root_.Go.ChangeSpec) : _root_.Go.OpenSpec := { _root_.Go.OpenSpec.ofChange s with cond := some uptoSmall }

/-- 'laws.FnPairAll', WHERE WHAT IT READS IS OF BULK AT MOST 1048576: true; the input reads as it did. -/
def fnPairAllUptoRow : OpenClaim := { program := "ytamnacgclhaggab", sum := "054e0e92e5fed372806a3021777aa399a2bd0ec667b9fb9aa541e4f29a41c7e4", func := "loop.example/ringorders/laws.FnPairAll", spec := "fnPairAll", unfollowed := true, recurses := true, apart := false, narrowed := true }
def FnPairAllUptoSaid : Prop := fnPairAllUptoRow.holds Try.pinned (OpenSpec.upto fnPairAllSpec)

/-- 'laws.FnPairRings', WHERE WHAT IT READS IS OF BULK AT MOST 1048576: true; the input reads as it did. -/
def fnPairRingsUptoRow : OpenClaim := { program := "ytamnacgclhaggab", sum := "054e0e92e5fed372806a3021777aa399a2bd0ec667b9fb9aa541e4f29a41c7e4", func := "loop.example/ringorders/laws.FnPairRings", spec := "fnPairRings", unfollowed := true, recurses := true, apart := false, narrowed := true }
def FnPairRingsUptoSaid : Prop := fnPairRingsUptoRow.holds Try.pinned (OpenSpec.upto fnPairRingsSpec)

/-- 'laws.FnPairFirst', WHERE WHAT IT READS IS OF BULK AT MOST 1048576: true; the input reads as it did. -/
def fnPairFirstUptoRow : OpenClaim := { program := "ytamnacgclhaggab", sum := "054e0e92e5fed372806a3021777aa399a2bd0ec667b9fb9aa541e4f29a41c7e4", func := "loop.example/ringorders/laws.FnPairFirst", spec := "fnPairFirst", unfollowed := true, recurses := true, apart := false, narrowed := true }
def FnPairFirstUptoSaid : Prop := fnPairFirstUptoRow.holds Try.pinned (OpenSpec.upto fnPairFirstSpec)

/-- 'laws.FnPairSame', WHERE WHAT IT READS IS OF BULK AT MOST 1048576: true; the input reads as it did. -/
def fnPairSameUptoRow : OpenClaim := { program := "ytamnacgclhaggab", sum := "054e0e92e5fed372806a3021777aa399a2bd0ec667b9fb9aa541e4f29a41c7e4", func := "loop.example/ringorders/laws.FnPairSame", spec := "fnPairSame", unfollowed := true, recurses := true, apart := false, narrowed := true }
def FnPairSameUptoSaid : Prop := fnPairSameUptoRow.holds Try.pinned (OpenSpec.upto fnPairSameSpec)

/-- 'laws.FnSwapAt', WHERE WHAT IT READS IS OF BULK AT MOST 1048576: true; the input reads as it did. -/
def fnSwapAtUptoRow : OpenClaim := { program := "ytamnacgclhaggab", sum := "054e0e92e5fed372806a3021777aa399a2bd0ec667b9fb9aa541e4f29a41c7e4", func := "loop.example/ringorders/laws.FnSwapAt", spec := "fnSwapAt", apart := false, narrowed := true }
def FnSwapAtUptoSaid : Prop := fnSwapAtUptoRow.holds Try.pinned (OpenSpec.upto fnSwapAtSpec)

/-- 'laws.FnNear', WHERE WHAT IT READS IS OF BULK AT MOST 1048576: true; the input reads as it did. -/
def fnNearUptoRow : OpenClaim := { program := "ytamnacgclhaggab", sum := "054e0e92e5fed372806a3021777aa399a2bd0ec667b9fb9aa541e4f29a41c7e4", func := "loop.example/ringorders/laws.FnNear", spec := "fnNear", recurses := true, apart := false, narrowed := true }
def FnNearUptoSaid : Prop := fnNearUptoRow.holds Try.pinned (OpenSpec.upto fnNearSpec)

/-- 'laws.FnDiffer', WHERE WHAT IT READS IS OF BULK AT MOST 1048576: true; the input reads as it did. -/
def fnDifferUptoRow : OpenClaim := { program := "ytamnacgclhaggab", sum := "054e0e92e5fed372806a3021777aa399a2bd0ec667b9fb9aa541e4f29a41c7e4", func := "loop.example/ringorders/laws.FnDiffer", spec := "fnDiffer", apart := false, narrowed := true }
def FnDifferUptoSaid : Prop := fnDifferUptoRow.holds Try.pinned (OpenSpec.upto fnDifferSpec)

/-- 'laws.FnDifferNamed', WHERE WHAT IT READS IS OF BULK AT MOST 1048576: true; the input reads as it did. -/
def fnDifferNamedUptoRow : OpenClaim := { program := "ytamnacgclhaggab", sum := "054e0e92e5fed372806a3021777aa399a2bd0ec667b9fb9aa541e4f29a41c7e4", func := "loop.example/ringorders/laws.FnDifferNamed", spec := "fnDifferNamed", apart := false, narrowed := true }
def FnDifferNamedUptoSaid : Prop := fnDifferNamedUptoRow.holds Try.pinned (OpenSpec.upto fnDifferNamedSpec)

/-- 'laws.FnCommon', WHERE WHAT IT READS IS OF BULK AT MOST 1048576: true; the input reads as it did. -/
def fnCommonUptoRow : OpenClaim := { program := "ytamnacgclhaggab", sum := "054e0e92e5fed372806a3021777aa399a2bd0ec667b9fb9aa541e4f29a41c7e4", func := "loop.example/ringorders/laws.FnCommon", spec := "fnCommon", unfollowed := true, recurses := true, apart := false, narrowed := true }
def FnCommonUptoSaid : Prop := fnCommonUptoRow.holds Try.pinned (OpenSpec.upto fnCommonSpec)

end Rows
end Go.Proofs.Ytamnacgclhaggab
