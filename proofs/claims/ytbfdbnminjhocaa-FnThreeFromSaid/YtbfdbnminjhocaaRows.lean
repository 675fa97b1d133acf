/-
  No cell of these rows narrows 'for every input' (looked for: loops, veiled, ifaces, maps, wideKeys, modest, calm, conditions, laid).
  DERIVED. THE GIVEN ROWS OF THIS SEAT. 9 by the template 'for every input the law returns true; each argument reads behind the call as it read before'; 0 by the template 'total and deterministic' (their statements: YtbfdbnminjhocaaTotals.lean).
  GIVEN WITH THE SEED: the statements are not yours to turn. If you find one false, say at which input.
  Laid BY PROGRAM, IN A SANDBOX (cutbox-rows.mjs): the forced cells as the released guide's own fill.sh prints them over the translation 3ad742cd3472a1d4… (all of the seat's roots in one cut). By AI agents, Wed Nov 11 2026. No macro, syntax, notation, axiom, sorry.
-/
import Derived.Test.YtbfdbnminjhocaaChecked
import GoSem.Claim
import GoSem.ClaimJoined
import GoSem.ClaimMapViews
import Derived.JoinedTies
import Derived.KernelRfl
namespace Go.Proofs.Ytbfdbnminjhocaa
/- THE CELL 'sum', in the pinned program and in every row, IS THE sha256 OF THE DUMP (.gsa) THAT YtbfdbnminjhocaaProg.lean LOADS. Nothing in Lean hashes anything: it is a label: what it is worth is what the hold of that sum in a sandbox is worth. -/
noncomputable def Try.pinned : Pinned := { name := "ytbfdbnminjhocaa", sum := "3ad742cd3472a1d47cae64e52034a5c238a613c9da831c0cc1e625cbc72c000d", checked := Try.checked }
namespace Rows
def none {H : Type} : Left H := { results := [], args := [] }

/-- 'laws.FnThreeFrom': WHATEVER THE INPUT: true; the input reads as it did. -/
def fnThreeFromSpec : ChangeSpec := { name := "fnThreeFrom", fn := fun _ => fun
  | [d] => { results := [.lit (.bool true)], args := [d] }
  | _ => none }
def fnThreeFromRow : OpenClaim := { program := "ytbfdbnminjhocaa", sum := "3ad742cd3472a1d47cae64e52034a5c238a613c9da831c0cc1e625cbc72c000d", func := "loop.example/ringorders/laws.FnThreeFrom", spec := "fnThreeFrom", apart := false }
def FnThreeFromSaid : Prop := fnThreeFromRow.holds Try.pinned (OpenSpec.ofChange fnThreeFromSpec)

/-- ITS FALSE NEIGHBOUR: 'it returns false'. Refute it at one input. -/
def fnThreeFromWrong : ChangeSpec := { name := "fnThreeFrom", fn := fun _ => fun
  | [d] => { results := [.lit (.bool false)], args := [d] }
  | _ => none }
def FnThreeFromWrongFalsely : Prop := fnThreeFromRow.holds Try.pinned (OpenSpec.ofChange fnThreeFromWrong)

/-- 'laws.FnFalls': WHATEVER THE INPUT: true; the input reads as it did. -/
def fnFallsSpec : ChangeSpec := { name := "fnFalls", fn := fun _ => fun
  | [d] => { results := [.lit (.bool true)], args := [d] }
  | _ => none }
def fnFallsRow : OpenClaim := { program := "ytbfdbnminjhocaa", sum := "3ad742cd3472a1d47cae64e52034a5c238a613c9da831c0cc1e625cbc72c000d", func := "loop.example/ringorders/laws.FnFalls", spec := "fnFalls", apart := false }
def FnFallsSaid : Prop := fnFallsRow.holds Try.pinned (OpenSpec.ofChange fnFallsSpec)

/-- ITS FALSE NEIGHBOUR: 'it returns false'. Refute it at one input. -/
def fnFallsWrong : ChangeSpec := { name := "fnFalls", fn := fun _ => fun
  | [d] => { results := [.lit (.bool false)], args := [d] }
  | _ => none }
def FnFallsWrongFalsely : Prop := fnFallsRow.holds Try.pinned (OpenSpec.ofChange fnFallsWrong)

/-- 'laws.FnWindCounts': WHATEVER THE INPUT: true; the input reads as it did. -/
def fnWindCountsSpec : ChangeSpec := { name := "fnWindCounts", fn := fun _ => fun
  | [d] => { results := [.lit (.bool true)], args := [d] }
  | _ => none }
def fnWindCountsRow : OpenClaim := { program := "ytbfdbnminjhocaa", sum := "3ad742cd3472a1d47cae64e52034a5c238a613c9da831c0cc1e625cbc72c000d", func := "loop.example/ringorders/laws.FnWindCounts", spec := "fnWindCounts", apart := false }
def FnWindCountsSaid : Prop := fnWindCountsRow.holds Try.pinned (OpenSpec.ofChange fnWindCountsSpec)

/-- ITS FALSE NEIGHBOUR: 'it returns false'. Refute it at one input. -/
def fnWindCountsWrong : ChangeSpec := { name := "fnWindCounts", fn := fun _ => fun
  | [d] => { results := [.lit (.bool false)], args := [d] }
  | _ => none }
def FnWindCountsWrongFalsely : Prop := fnWindCountsRow.holds Try.pinned (OpenSpec.ofChange fnWindCountsWrong)

/-- 'laws.FnWindSums': WHATEVER THE INPUT: true; the input reads as it did. -/
def fnWindSumsSpec : ChangeSpec := { name := "fnWindSums", fn := fun _ => fun
  | [d] => { results := [.lit (.bool true)], args := [d] }
  | _ => none }
def fnWindSumsRow : OpenClaim := { program := "ytbfdbnminjhocaa", sum := "3ad742cd3472a1d47cae64e52034a5c238a613c9da831c0cc1e625cbc72c000d", func := "loop.example/ringorders/laws.FnWindSums", spec := "fnWindSums", apart := false }
def FnWindSumsSaid : Prop := fnWindSumsRow.holds Try.pinned (OpenSpec.ofChange fnWindSumsSpec)

/-- ITS FALSE NEIGHBOUR: 'it returns false'. Refute it at one input. -/
def fnWindSumsWrong : ChangeSpec := { name := "fnWindSums", fn := fun _ => fun
  | [d] => { results := [.lit (.bool false)], args := [d] }
  | _ => none }
def FnWindSumsWrongFalsely : Prop := fnWindSumsRow.holds Try.pinned (OpenSpec.ofChange fnWindSumsWrong)

/-- 'laws.FnPath': WHATEVER THE INPUT: true; the input reads as it did. -/
def fnPathSpec : ChangeSpec := { name := "fnPath", fn := fun _ => fun
  | [d] => { results := [.lit (.bool true)], args := [d] }
  | _ => none }
def fnPathRow : OpenClaim := { program := "ytbfdbnminjhocaa", sum := "3ad742cd3472a1d47cae64e52034a5c238a613c9da831c0cc1e625cbc72c000d", func := "loop.example/ringorders/laws.FnPath", spec := "fnPath", apart := false }
def FnPathSaid : Prop := fnPathRow.holds Try.pinned (OpenSpec.ofChange fnPathSpec)

/-- ITS FALSE NEIGHBOUR: 'it returns false'. Refute it at one input. -/
def fnPathWrong : ChangeSpec := { name := "fnPath", fn := fun _ => fun
  | [d] => { results := [.lit (.bool false)], args := [d] }
  | _ => none }
def FnPathWrongFalsely : Prop := fnPathRow.holds Try.pinned (OpenSpec.ofChange fnPathWrong)

/-- 'laws.FnWindBetween': WHATEVER THE INPUT: true; the input reads as it did. -/
def fnWindBetweenSpec : ChangeSpec := { name := "fnWindBetween", fn := fun _ => fun
  | [d] => { results := [.lit (.bool true)], args := [d] }
  | _ => none }
def fnWindBetweenRow : OpenClaim := { program := "ytbfdbnminjhocaa", sum := "3ad742cd3472a1d47cae64e52034a5c238a613c9da831c0cc1e625cbc72c000d", func := "loop.example/ringorders/laws.FnWindBetween", spec := "fnWindBetween", apart := false }
def FnWindBetweenSaid : Prop := fnWindBetweenRow.holds Try.pinned (OpenSpec.ofChange fnWindBetweenSpec)

/-- ITS FALSE NEIGHBOUR: 'it returns false'. Refute it at one input. -/
def fnWindBetweenWrong : ChangeSpec := { name := "fnWindBetween", fn := fun _ => fun
  | [d] => { results := [.lit (.bool false)], args := [d] }
  | _ => none }
def FnWindBetweenWrongFalsely : Prop := fnWindBetweenRow.holds Try.pinned (OpenSpec.ofChange fnWindBetweenWrong)

/-- 'laws.FnWindMost': WHATEVER THE INPUT: true; the input reads as it did. -/
def fnWindMostSpec : ChangeSpec := { name := "fnWindMost", fn := fun _ => fun
  | [d] => { results := [.lit (.bool true)], args := [d] }
  | _ => none }
def fnWindMostRow : OpenClaim := { program := "ytbfdbnminjhocaa", sum := "3ad742cd3472a1d47cae64e52034a5c238a613c9da831c0cc1e625cbc72c000d", func := "loop.example/ringorders/laws.FnWindMost", spec := "fnWindMost", apart := false }
def FnWindMostSaid : Prop := fnWindMostRow.holds Try.pinned (OpenSpec.ofChange fnWindMostSpec)

/-- ITS FALSE NEIGHBOUR: 'it returns false'. Refute it at one input. -/
def fnWindMostWrong : ChangeSpec := { name := "fnWindMost", fn := fun _ => fun
  | [d] => { results := [.lit (.bool false)], args := [d] }
  | _ => none }
def FnWindMostWrongFalsely : Prop := fnWindMostRow.holds Try.pinned (OpenSpec.ofChange fnWindMostWrong)

/-- 'laws.FnWindNamed': WHATEVER THE INPUT: true; the input reads as it did. -/
def fnWindNamedSpec : ChangeSpec := { name := "fnWindNamed", fn := fun _ => fun
  | [d] => { results := [.lit (.bool true)], args := [d] }
  | _ => none }
def fnWindNamedRow : OpenClaim := { program := "ytbfdbnminjhocaa", sum := "3ad742cd3472a1d47cae64e52034a5c238a613c9da831c0cc1e625cbc72c000d", func := "loop.example/ringorders/laws.FnWindNamed", spec := "fnWindNamed", apart := false }
def FnWindNamedSaid : Prop := fnWindNamedRow.holds Try.pinned (OpenSpec.ofChange fnWindNamedSpec)

/-- ITS FALSE NEIGHBOUR: 'it returns false'. Refute it at one input. -/
def fnWindNamedWrong : ChangeSpec := { name := "fnWindNamed", fn := fun _ => fun
  | [d] => { results := [.lit (.bool false)], args := [d] }
  | _ => none }
def FnWindNamedWrongFalsely : Prop := fnWindNamedRow.holds Try.pinned (OpenSpec.ofChange fnWindNamedWrong)

/-- 'laws.FnPutFalls': WHATEVER THE INPUT: true; the input reads as it did. -/
def fnPutFallsSpec : ChangeSpec := { name := "fnPutFalls", fn := fun _ => fun
  | [d] => { results := [.lit (.bool true)], args := [d] }
  | _ => none }
def fnPutFallsRow : OpenClaim := { program := "ytbfdbnminjhocaa", sum := "3ad742cd3472a1d47cae64e52034a5c238a613c9da831c0cc1e625cbc72c000d", func := "loop.example/ringorders/laws.FnPutFalls", spec := "fnPutFalls", apart := false }
def FnPutFallsSaid : Prop := fnPutFallsRow.holds Try.pinned (OpenSpec.ofChange fnPutFallsSpec)

/-- ITS FALSE NEIGHBOUR: 'it returns false'. Refute it at one input. -/
def fnPutFallsWrong : ChangeSpec := { name := "fnPutFalls", fn := fun _ => fun
  | [d] => { results := [.lit (.bool false)], args := [d] }
  | _ => none }
def FnPutFallsWrongFalsely : Prop := fnPutFallsRow.holds Try.pinned (OpenSpec.ofChange fnPutFallsWrong)

/- THE SECOND FORM. 'bulk': how many values and letters a reading holds, each counted each time it is reached (what is shared counts as often as it is met; a slice's spare places count too). A statement '..UptoSaid' is the law's where the arguments, and the package variables that the reading takes, are together of bulk at most 1048576: NARROWER than '..Said'. Prove '..Said' where nothing that the law and all that it calls make is longer than what came in: it says more and counts as full. Else prove '..UptoSaid'. A law counts once. -/
mutual
def uptoBulk {H : Type} : DataW H → Nat
  | .lit (.string bytes) => bytes.length + 1
  | .lit _ => 1
  | .nil => 1
  | .ptr d => uptoBulk d + 1
  | .slice elems spare => uptoBulkAll elems + uptoBulkAll spare + 1
  | .agg parts => uptoBulkAll parts + 1
  | .iface _ d => uptoBulk d + 1
  | .map entries => uptoBulkEntries entries + 1
  | .held _ => 1
def uptoBulkAll {H : Type} : List (DataW H) → Nat
  | [] => 0
  | d :: r => uptoBulk d + uptoBulkAll r
def uptoBulkEntries {H : Type} : List (Lit × DataW H) → Nat
  | [] => 0
  | x :: r => uptoBulkEntry x + uptoBulkEntries r
def uptoBulkEntry {H : Type} : Lit × DataW H → Nat
  | (.string bytes, d) => bytes.length + uptoBulk d + 1
  | (_, d) => uptoBulk d + 1
 end
def uptoSmall : (H : Type) → List (DataW H) → Bool := fun _ ds => decide (uptoBulkAll ds ≤ 1048576)
def OpenSpec.upto (s : _root_.Go.ChangeSpec) : _root_.Go.OpenSpec := { _root_.Go.OpenSpec.ofChange s with cond := some uptoSmall }

/-- 'laws.FnThreeFrom', WHERE WHAT IT READS IS OF BULK AT MOST 1048576: true; the input reads as it did. -/
def fnThreeFromUptoRow : OpenClaim := { program := "ytbfdbnminjhocaa", sum := "3ad742cd3472a1d47cae64e52034a5c238a613c9da831c0cc1e625cbc72c000d", func := "loop.example/ringorders/laws.FnThreeFrom", spec := "fnThreeFrom", apart := false, narrowed := true }
def FnThreeFromUptoSaid : Prop := fnThreeFromUptoRow.holds Try.pinned (OpenSpec.upto fnThreeFromSpec)

/-- 'laws.FnFalls', WHERE WHAT IT READS IS OF BULK AT MOST 1048576: true; the input reads as it did. -/
def fnFallsUptoRow : OpenClaim := { program := "ytbfdbnminjhocaa", sum := "3ad742cd3472a1d47cae64e52034a5c238a613c9da831c0cc1e625cbc72c000d", func := "loop.example/ringorders/laws.FnFalls", spec := "fnFalls", apart := false, narrowed := true }
def FnFallsUptoSaid : Prop := fnFallsUptoRow.holds Try.pinned (OpenSpec.upto fnFallsSpec)

/-- 'laws.FnWindCounts', WHERE WHAT IT READS IS OF BULK AT MOST 1048576: true; the input reads as it did. -/
def fnWindCountsUptoRow : OpenClaim := { program := "ytbfdbnminjhocaa", sum := "3ad742cd3472a1d47cae64e52034a5c238a613c9da831c0cc1e625cbc72c000d", func := "loop.example/ringorders/laws.FnWindCounts", spec := "fnWindCounts", apart := false, narrowed := true }
def FnWindCountsUptoSaid : Prop := fnWindCountsUptoRow.holds Try.pinned (OpenSpec.upto fnWindCountsSpec)

/-- 'laws.FnWindSums', WHERE WHAT IT READS IS OF BULK AT MOST 1048576: true; the input reads as it did. -/
def fnWindSumsUptoRow : OpenClaim := { program := "ytbfdbnminjhocaa", sum := "3ad742cd3472a1d47cae64e52034a5c238a613c9da831c0cc1e625cbc72c000d", func := "loop.example/ringorders/laws.FnWindSums", spec := "fnWindSums", apart := false, narrowed := true }
def FnWindSumsUptoSaid : Prop := fnWindSumsUptoRow.holds Try.pinned (OpenSpec.upto fnWindSumsSpec)

/-- 'laws.FnPath', WHERE WHAT IT READS IS OF BULK AT MOST 1048576: true; the input reads as it did. -/
def fnPathUptoRow : OpenClaim := { program := "ytbfdbnminjhocaa", sum := "3ad742cd3472a1d47cae64e52034a5c238a613c9da831c0cc1e625cbc72c000d", func := "loop.example/ringorders/laws.FnPath", spec := "fnPath", apart := false, narrowed := true }
def FnPathUptoSaid : Prop := fnPathUptoRow.holds Try.pinned (OpenSpec.upto fnPathSpec)

/-- 'laws.FnWindBetween', WHERE WHAT IT READS IS OF BULK AT MOST 1048576: true; the input reads as it did. -/
def fnWindBetweenUptoRow : OpenClaim := { program := "ytbfdbnminjhocaa", sum := "3ad742cd3472a1d47cae64e52034a5c238a613c9da831c0cc1e625cbc72c000d", func := "loop.example/ringorders/laws.FnWindBetween", spec := "fnWindBetween", apart := false, narrowed := true }
def FnWindBetweenUptoSaid : Prop := fnWindBetweenUptoRow.holds Try.pinned (OpenSpec.upto fnWindBetweenSpec)

/-- 'laws.FnWindMost', WHERE WHAT IT READS IS OF BULK AT MOST 1048576: true; the input reads as it did. -/
def fnWindMostUptoRow : OpenClaim := { program := "ytbfdbnminjhocaa", sum := "3ad742cd3472a1d47cae64e52034a5c238a613c9da831c0cc1e625cbc72c000d", func := "loop.example/ringorders/laws.FnWindMost", spec := "fnWindMost", apart := false, narrowed := true }
def FnWindMostUptoSaid : Prop := fnWindMostUptoRow.holds Try.pinned (OpenSpec.upto fnWindMostSpec)

/-- 'laws.FnWindNamed', WHERE WHAT IT READS IS OF BULK AT MOST 1048576: true; the input reads as it did. -/
def fnWindNamedUptoRow : OpenClaim := { program := "ytbfdbnminjhocaa", sum := "3ad742cd3472a1d47cae64e52034a5c238a613c9da831c0cc1e625cbc72c000d", func := "loop.example/ringorders/laws.FnWindNamed", spec := "fnWindNamed", apart := false, narrowed := true }
def FnWindNamedUptoSaid : Prop := fnWindNamedUptoRow.holds Try.pinned (OpenSpec.upto fnWindNamedSpec)

/-- 'laws.FnPutFalls', WHERE WHAT IT READS IS OF BULK AT MOST 1048576: true; the input reads as it did. -/
def fnPutFallsUptoRow : OpenClaim := { program := "ytbfdbnminjhocaa", sum := "3ad742cd3472a1d47cae64e52034a5c238a613c9da831c0cc1e625cbc72c000d", func := "loop.example/ringorders/laws.FnPutFalls", spec := "fnPutFalls", apart := false, narrowed := true }
def FnPutFallsUptoSaid : Prop := fnPutFallsUptoRow.holds Try.pinned (OpenSpec.upto fnPutFallsSpec)

end Rows
end Go.Proofs.Ytbfdbnminjhocaa
