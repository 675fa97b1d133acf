/-
  No cell of these rows narrows 'for every input' (looked for: loops, veiled, ifaces, maps, wideKeys, modest, calm, conditions, laid).
  DERIVED. THE GIVEN ROWS OF THIS SEAT. 8 by the template 'for every input the law returns true; each argument reads behind the call as it read before'; 0 by the template 'total and deterministic' (their statements: YtoglcpbkmenlbaaTotals.lean).
  GIVEN WITH THE SEED: the statements are not yours to turn. If you find one false, say at which input.
  Laid BY PROGRAM, IN A SANDBOX (cutbox-rows.mjs): the forced cells as the released guide's own fill.sh prints them over the translation 9be040783bfe45ce… (all of the seat's roots in one cut). By AI agents, Wed Nov 11 2026. No macro, syntax, notation, axiom, sorry.
-/
import Derived.Test.YtoglcpbkmenlbaaChecked
import GoSem.Claim
import GoSem.ClaimJoined
import GoSem.ClaimMapViews
import Derived.JoinedTies
import Derived.KernelRfl
namespace Go.Proofs.Ytoglcpbkmenlbaa
/- THE CELL 'sum', in the pinned program and in every row, IS THE sha256 OF THE DUMP (.gsa) THAT YtoglcpbkmenlbaaProg.lean LOADS. Nothing in Lean hashes anything: it is a label: what it is worth is what the hold of that sum in a sandbox is worth. -/
noncomputable def Try.pinned : Pinned := { name := "ytoglcpbkmenlbaa", sum := "9be040783bfe45ce717d7ca775f1a351cdcb88aabadfa9e362b86d69dcb0e301", checked := Try.checked }
namespace Rows
def none {H : Type} : Left H := { results := [], args := [] }

/-- 'laws.FnExactSwapAt': WHATEVER THE INPUT: true; the input reads as it did. -/
def fnExactSwapAtSpec : ChangeSpec := { name := "fnExactSwapAt", fn := fun _ => fun
  | [d1, d2] => { results := [.lit (.bool true)], args := [d1, d2] }
  | _ => none }
def fnExactSwapAtRow : OpenClaim := { program := "ytoglcpbkmenlbaa", sum := "9be040783bfe45ce717d7ca775f1a351cdcb88aabadfa9e362b86d69dcb0e301", func := "loop.example/ringorders/laws.FnExactSwapAt", spec := "fnExactSwapAt", apart := false }
def FnExactSwapAtSaid : Prop := fnExactSwapAtRow.holds Try.pinned (OpenSpec.ofChange fnExactSwapAtSpec)

/-- ITS FALSE NEIGHBOUR: 'it returns false'. Refute it at one input. -/
def fnExactSwapAtWrong : ChangeSpec := { name := "fnExactSwapAt", fn := fun _ => fun
  | [d1, d2] => { results := [.lit (.bool false)], args := [d1, d2] }
  | _ => none }
def FnExactSwapAtWrongFalsely : Prop := fnExactSwapAtRow.holds Try.pinned (OpenSpec.ofChange fnExactSwapAtWrong)

/-- 'laws.FnExactSwapNear': WHATEVER THE INPUT: true; the input reads as it did. -/
def fnExactSwapNearSpec : ChangeSpec := { name := "fnExactSwapNear", fn := fun _ => fun
  | [d] => { results := [.lit (.bool true)], args := [d] }
  | _ => none }
def fnExactSwapNearRow : OpenClaim := { program := "ytoglcpbkmenlbaa", sum := "9be040783bfe45ce717d7ca775f1a351cdcb88aabadfa9e362b86d69dcb0e301", func := "loop.example/ringorders/laws.FnExactSwapNear", spec := "fnExactSwapNear", recurses := true, apart := false }
def FnExactSwapNearSaid : Prop := fnExactSwapNearRow.holds Try.pinned (OpenSpec.ofChange fnExactSwapNearSpec)

/-- ITS FALSE NEIGHBOUR: 'it returns false'. Refute it at one input. -/
def fnExactSwapNearWrong : ChangeSpec := { name := "fnExactSwapNear", fn := fun _ => fun
  | [d] => { results := [.lit (.bool false)], args := [d] }
  | _ => none }
def FnExactSwapNearWrongFalsely : Prop := fnExactSwapNearRow.holds Try.pinned (OpenSpec.ofChange fnExactSwapNearWrong)

/-- 'laws.FnExactSwapDiffer': WHATEVER THE INPUT: true; the input reads as it did. -/
def fnExactSwapDifferSpec : ChangeSpec := { name := "fnExactSwapDiffer", fn := fun _ => fun
  | [d1, d2] => { results := [.lit (.bool true)], args := [d1, d2] }
  | _ => none }
def fnExactSwapDifferRow : OpenClaim := { program := "ytoglcpbkmenlbaa", sum := "9be040783bfe45ce717d7ca775f1a351cdcb88aabadfa9e362b86d69dcb0e301", func := "loop.example/ringorders/laws.FnExactSwapDiffer", spec := "fnExactSwapDiffer", apart := false }
def FnExactSwapDifferSaid : Prop := fnExactSwapDifferRow.holds Try.pinned (OpenSpec.ofChange fnExactSwapDifferSpec)

/-- ITS FALSE NEIGHBOUR: 'it returns false'. Refute it at one input. -/
def fnExactSwapDifferWrong : ChangeSpec := { name := "fnExactSwapDiffer", fn := fun _ => fun
  | [d1, d2] => { results := [.lit (.bool false)], args := [d1, d2] }
  | _ => none }
def FnExactSwapDifferWrongFalsely : Prop := fnExactSwapDifferRow.holds Try.pinned (OpenSpec.ofChange fnExactSwapDifferWrong)

/-- 'laws.FnExactSwapFar': WHATEVER THE INPUT: true; the input reads as it did. -/
def fnExactSwapFarSpec : ChangeSpec := { name := "fnExactSwapFar", fn := fun _ => fun
  | [d1, d2] => { results := [.lit (.bool true)], args := [d1, d2] }
  | _ => none }
def fnExactSwapFarRow : OpenClaim := { program := "ytoglcpbkmenlbaa", sum := "9be040783bfe45ce717d7ca775f1a351cdcb88aabadfa9e362b86d69dcb0e301", func := "loop.example/ringorders/laws.FnExactSwapFar", spec := "fnExactSwapFar", inPlace := ["(*sync.WaitGroup).Add", "internal/race.ReleaseMerge", "internal/race.Disable", "internal/race.Enable", "internal/synctest.IsInBubble", "internal/synctest.Associate[sync.WaitGroup]", "sync.fatal", "sync/atomic.OrUint64", "sync/atomic.AddUint64", "internal/race.Read", "sync/atomic.LoadUint64", "sync/atomic.StoreUint64", "internal/synctest.Disassociate[sync.WaitGroup]", "sync.runtime_Semrelease", "(*sync.WaitGroup).Done", "(*sync.WaitGroup).Wait", "internal/race.Acquire", "internal/synctest.IsAssociated[sync.WaitGroup]", "sync/atomic.CompareAndSwapUint64", "internal/race.Write", "sync.runtime_SemacquireWaitGroup"], unfollowed := true, recurses := true, leaving := true, apart := false }
def FnExactSwapFarSaid : Prop := fnExactSwapFarRow.holds Try.pinned (OpenSpec.ofChange fnExactSwapFarSpec)

/-- ITS FALSE NEIGHBOUR: 'it returns false'. Refute it at one input. -/
def fnExactSwapFarWrong : ChangeSpec := { name := "fnExactSwapFar", fn := fun _ => fun
  | [d1, d2] => { results := [.lit (.bool false)], args := [d1, d2] }
  | _ => none }
def FnExactSwapFarWrongFalsely : Prop := fnExactSwapFarRow.holds Try.pinned (OpenSpec.ofChange fnExactSwapFarWrong)

/-- 'laws.FnExactSwapWay': WHATEVER THE INPUT: true; the input reads as it did. -/
def fnExactSwapWaySpec : ChangeSpec := { name := "fnExactSwapWay", fn := fun _ => fun
  | [d1, d2] => { results := [.lit (.bool true)], args := [d1, d2] }
  | _ => none }
def fnExactSwapWayRow : OpenClaim := { program := "ytoglcpbkmenlbaa", sum := "9be040783bfe45ce717d7ca775f1a351cdcb88aabadfa9e362b86d69dcb0e301", func := "loop.example/ringorders/laws.FnExactSwapWay", spec := "fnExactSwapWay", inPlace := ["(*sync.WaitGroup).Add", "internal/race.ReleaseMerge", "internal/race.Disable", "internal/race.Enable", "internal/synctest.IsInBubble", "internal/synctest.Associate[sync.WaitGroup]", "sync.fatal", "sync/atomic.OrUint64", "sync/atomic.AddUint64", "internal/race.Read", "sync/atomic.LoadUint64", "sync/atomic.StoreUint64", "internal/synctest.Disassociate[sync.WaitGroup]", "sync.runtime_Semrelease", "(*sync.WaitGroup).Done", "(*sync.WaitGroup).Wait", "internal/race.Acquire", "internal/synctest.IsAssociated[sync.WaitGroup]", "sync/atomic.CompareAndSwapUint64", "internal/race.Write", "sync.runtime_SemacquireWaitGroup"], unfollowed := true, recurses := true, leaving := true, apart := false }
def FnExactSwapWaySaid : Prop := fnExactSwapWayRow.holds Try.pinned (OpenSpec.ofChange fnExactSwapWaySpec)

/-- ITS FALSE NEIGHBOUR: 'it returns false'. Refute it at one input. -/
def fnExactSwapWayWrong : ChangeSpec := { name := "fnExactSwapWay", fn := fun _ => fun
  | [d1, d2] => { results := [.lit (.bool false)], args := [d1, d2] }
  | _ => none }
def FnExactSwapWayWrongFalsely : Prop := fnExactSwapWayRow.holds Try.pinned (OpenSpec.ofChange fnExactSwapWayWrong)

/-- 'laws.FnExactSwapCounts': WHATEVER THE INPUT: true; the input reads as it did. -/
def fnExactSwapCountsSpec : ChangeSpec := { name := "fnExactSwapCounts", fn := fun _ => fun
  | [d] => { results := [.lit (.bool true)], args := [d] }
  | _ => none }
def fnExactSwapCountsRow : OpenClaim := { program := "ytoglcpbkmenlbaa", sum := "9be040783bfe45ce717d7ca775f1a351cdcb88aabadfa9e362b86d69dcb0e301", func := "loop.example/ringorders/laws.FnExactSwapCounts", spec := "fnExactSwapCounts", inPlace := ["(*sync.WaitGroup).Add", "internal/race.ReleaseMerge", "internal/race.Disable", "internal/race.Enable", "internal/synctest.IsInBubble", "internal/synctest.Associate[sync.WaitGroup]", "sync.fatal", "sync/atomic.OrUint64", "sync/atomic.AddUint64", "internal/race.Read", "sync/atomic.LoadUint64", "sync/atomic.StoreUint64", "internal/synctest.Disassociate[sync.WaitGroup]", "sync.runtime_Semrelease", "(*sync.WaitGroup).Done", "(*sync.WaitGroup).Wait", "internal/race.Acquire", "internal/synctest.IsAssociated[sync.WaitGroup]", "sync/atomic.CompareAndSwapUint64", "internal/race.Write", "sync.runtime_SemacquireWaitGroup"], unfollowed := true, recurses := true, leaving := true, apart := false }
def FnExactSwapCountsSaid : Prop := fnExactSwapCountsRow.holds Try.pinned (OpenSpec.ofChange fnExactSwapCountsSpec)

/-- ITS FALSE NEIGHBOUR: 'it returns false'. Refute it at one input. -/
def fnExactSwapCountsWrong : ChangeSpec := { name := "fnExactSwapCounts", fn := fun _ => fun
  | [d] => { results := [.lit (.bool false)], args := [d] }
  | _ => none }
def FnExactSwapCountsWrongFalsely : Prop := fnExactSwapCountsRow.holds Try.pinned (OpenSpec.ofChange fnExactSwapCountsWrong)

/-- 'laws.FnExactSwapMiddle': WHATEVER THE INPUT: true; the input reads as it did. -/
def fnExactSwapMiddleSpec : ChangeSpec := { name := "fnExactSwapMiddle", fn := fun _ => fun
  | [d1, d2, d3] => { results := [.lit (.bool true)], args := [d1, d2, d3] }
  | _ => none }
def fnExactSwapMiddleRow : OpenClaim := { program := "ytoglcpbkmenlbaa", sum := "9be040783bfe45ce717d7ca775f1a351cdcb88aabadfa9e362b86d69dcb0e301", func := "loop.example/ringorders/laws.FnExactSwapMiddle", spec := "fnExactSwapMiddle", inPlace := ["(*sync.WaitGroup).Add", "internal/race.ReleaseMerge", "internal/race.Disable", "internal/race.Enable", "internal/synctest.IsInBubble", "internal/synctest.Associate[sync.WaitGroup]", "sync.fatal", "sync/atomic.OrUint64", "sync/atomic.AddUint64", "internal/race.Read", "sync/atomic.LoadUint64", "sync/atomic.StoreUint64", "internal/synctest.Disassociate[sync.WaitGroup]", "sync.runtime_Semrelease", "(*sync.WaitGroup).Done", "(*sync.WaitGroup).Wait", "internal/race.Acquire", "internal/synctest.IsAssociated[sync.WaitGroup]", "sync/atomic.CompareAndSwapUint64", "internal/race.Write", "sync.runtime_SemacquireWaitGroup"], unfollowed := true, recurses := true, leaving := true, apart := false }
def FnExactSwapMiddleSaid : Prop := fnExactSwapMiddleRow.holds Try.pinned (OpenSpec.ofChange fnExactSwapMiddleSpec)

/-- ITS FALSE NEIGHBOUR: 'it returns false'. Refute it at one input. -/
def fnExactSwapMiddleWrong : ChangeSpec := { name := "fnExactSwapMiddle", fn := fun _ => fun
  | [d1, d2, d3] => { results := [.lit (.bool false)], args := [d1, d2, d3] }
  | _ => none }
def FnExactSwapMiddleWrongFalsely : Prop := fnExactSwapMiddleRow.holds Try.pinned (OpenSpec.ofChange fnExactSwapMiddleWrong)

/-- 'laws.FnExactSwapBack': WHATEVER THE INPUT: true; the input reads as it did. -/
def fnExactSwapBackSpec : ChangeSpec := { name := "fnExactSwapBack", fn := fun _ => fun
  | [d] => { results := [.lit (.bool true)], args := [d] }
  | _ => none }
def fnExactSwapBackRow : OpenClaim := { program := "ytoglcpbkmenlbaa", sum := "9be040783bfe45ce717d7ca775f1a351cdcb88aabadfa9e362b86d69dcb0e301", func := "loop.example/ringorders/laws.FnExactSwapBack", spec := "fnExactSwapBack", inPlace := ["(*sync.WaitGroup).Add", "internal/race.ReleaseMerge", "internal/race.Disable", "internal/race.Enable", "internal/synctest.IsInBubble", "internal/synctest.Associate[sync.WaitGroup]", "sync.fatal", "sync/atomic.OrUint64", "sync/atomic.AddUint64", "internal/race.Read", "sync/atomic.LoadUint64", "sync/atomic.StoreUint64", "internal/synctest.Disassociate[sync.WaitGroup]", "sync.runtime_Semrelease", "(*sync.WaitGroup).Done", "(*sync.WaitGroup).Wait", "internal/race.Acquire", "internal/synctest.IsAssociated[sync.WaitGroup]", "sync/atomic.CompareAndSwapUint64", "internal/race.Write", "sync.runtime_SemacquireWaitGroup"], unfollowed := true, recurses := true, leaving := true, apart := false }
def FnExactSwapBackSaid : Prop := fnExactSwapBackRow.holds Try.pinned (OpenSpec.ofChange fnExactSwapBackSpec)

/-- ITS FALSE NEIGHBOUR: 'it returns false'. Refute it at one input. -/
def fnExactSwapBackWrong : ChangeSpec := { name := "fnExactSwapBack", fn := fun _ => fun
  | [d] => { results := [.lit (.bool false)], args := [d] }
  | _ => none }
def FnExactSwapBackWrongFalsely : Prop := fnExactSwapBackRow.holds Try.pinned (OpenSpec.ofChange fnExactSwapBackWrong)

/- THE SECOND FORM. 'bulk': how many values and letters a reading holds, each counted each time it is reached (what is shared counts as often as it is met; a slice's spare places count too). A statement '..UptoSaid' is the law's where the arguments, and the package variables that the reading takes, are together of bulk at most 1048576: NARROWER than '..Said'. Prove '..Said' where nothing that the law and all that it calls make is longer than what came in: it says more and counts as full. Else prove '..UptoSaid'. A law counts once. -/
mutual
def uptoBulk {H : Type} : DataW H → Nat
  | .lit (.string bytes) => bytes.length + 1
  | .lit _ => 1
  | .nil => 1
  | .ptr d => uptoBulk d + 1
  | .slice elems spare => uptoBulkAll elems + uptoBulkAll spare + 1
  | .agg parts => uptoBulkAll parts + 1
  | .iface _ d => uptoBulk d + 1
  | .map entries => uptoBulkEntries entries + 1
  | .held _ => 1
def uptoBulkAll {H : Type} : List (DataW H) → Nat
  | [] => 0
  | d :: r => uptoBulk d + uptoBulkAll r
def uptoBulkEntries {H : Type} : List (Lit × DataW H) → Nat
  | [] => 0
  | x :: r => uptoBulkEntry x + uptoBulkEntries r
def uptoBulkEntry {H : Type} : Lit × DataW H → Nat
  | (.string bytes, d) => bytes.length + uptoBulk d + 1
  | (_, d) => uptoBulk d + 1
 end
def uptoSmall : (H : Type) → List (DataW H) → Bool := fun _ ds => decide (uptoBulkAll ds ≤ 1048576)
def OpenSpec.upto (s : _root_.Go.ChangeSpec) : _root_.Go.OpenSpec := { _root_.Go.OpenSpec.ofChange s with cond := some uptoSmall }

/-- 'laws.FnExactSwapAt', WHERE WHAT IT READS IS OF BULK AT MOST 1048576: true; the input reads as it did. -/
def fnExactSwapAtUptoRow : OpenClaim := { program := "ytoglcpbkmenlbaa", sum := "9be040783bfe45ce717d7ca775f1a351cdcb88aabadfa9e362b86d69dcb0e301", func := "loop.example/ringorders/laws.FnExactSwapAt", spec := "fnExactSwapAt", apart := false, narrowed := true }
def FnExactSwapAtUptoSaid : Prop := fnExactSwapAtUptoRow.holds Try.pinned (OpenSpec.upto fnExactSwapAtSpec)

/-- 'laws.FnExactSwapNear', WHERE WHAT IT READS IS OF BULK AT MOST 1048576: true; the input reads as it did. -/
def fnExactSwapNearUptoRow : OpenClaim := { program := "ytoglcpbkmenlbaa", sum := "9be040783bfe45ce717d7ca775f1a351cdcb88aabadfa9e362b86d69dcb0e301", func := "loop.example/ringorders/laws.FnExactSwapNear", spec := "fnExactSwapNear", recurses := true, apart := false, narrowed := true }
def FnExactSwapNearUptoSaid : Prop := fnExactSwapNearUptoRow.holds Try.pinned (OpenSpec.upto fnExactSwapNearSpec)

/-- 'laws.FnExactSwapDiffer', WHERE WHAT IT READS IS OF BULK AT MOST 1048576: true; the input reads as it did. -/
def fnExactSwapDifferUptoRow : OpenClaim := { program := "ytoglcpbkmenlbaa", sum := "9be040783bfe45ce717d7ca775f1a351cdcb88aabadfa9e362b86d69dcb0e301", func := "loop.example/ringorders/laws.FnExactSwapDiffer", spec := "fnExactSwapDiffer", apart := false, narrowed := true }
def FnExactSwapDifferUptoSaid : Prop := fnExactSwapDifferUptoRow.holds Try.pinned (OpenSpec.upto fnExactSwapDifferSpec)

/-- 'laws.FnExactSwapFar', WHERE WHAT IT READS IS OF BULK AT MOST 1048576: true; the input reads as it did. -/
def fnExactSwapFarUptoRow : OpenClaim := { program := "ytoglcpbkmenlbaa", sum := "9be040783bfe45ce717d7ca775f1a351cdcb88aabadfa9e362b86d69dcb0e301", func := "loop.example/ringorders/laws.FnExactSwapFar", spec := "fnExactSwapFar", inPlace := ["(*sync.WaitGroup).Add", "internal/race.ReleaseMerge", "internal/race.Disable", "internal/race.Enable", "internal/synctest.IsInBubble", "internal/synctest.Associate[sync.WaitGroup]", "sync.fatal", "sync/atomic.OrUint64", "sync/atomic.AddUint64", "internal/race.Read", "sync/atomic.LoadUint64", "sync/atomic.StoreUint64", "internal/synctest.Disassociate[sync.WaitGroup]", "sync.runtime_Semrelease", "(*sync.WaitGroup).Done", "(*sync.WaitGroup).Wait", "internal/race.Acquire", "internal/synctest.IsAssociated[sync.WaitGroup]", "sync/atomic.CompareAndSwapUint64", "internal/race.Write", "sync.runtime_SemacquireWaitGroup"], unfollowed := true, recurses := true, leaving := true, apart := false, narrowed := true }
def FnExactSwapFarUptoSaid : Prop := fnExactSwapFarUptoRow.holds Try.pinned (OpenSpec.upto fnExactSwapFarSpec)

/-- 'laws.FnExactSwapWay', WHERE WHAT IT READS IS OF BULK AT MOST 1048576: true; the input reads as it did. -/
def fnExactSwapWayUptoRow : OpenClaim := { program := "ytoglcpbkmenlbaa", sum := "9be040783bfe45ce717d7ca775f1a351cdcb88aabadfa9e362b86d69dcb0e301", func := "loop.example/ringorders/laws.FnExactSwapWay", spec := "fnExactSwapWay", inPlace := ["(*sync.WaitGroup).Add", "internal/race.ReleaseMerge", "internal/race.Disable", "internal/race.Enable", "internal/synctest.IsInBubble", "internal/synctest.Associate[sync.WaitGroup]", "sync.fatal", "sync/atomic.OrUint64", "sync/atomic.AddUint64", "internal/race.Read", "sync/atomic.LoadUint64", "sync/atomic.StoreUint64", "internal/synctest.Disassociate[sync.WaitGroup]", "sync.runtime_Semrelease", "(*sync.WaitGroup).Done", "(*sync.WaitGroup).Wait", "internal/race.Acquire", "internal/synctest.IsAssociated[sync.WaitGroup]", "sync/atomic.CompareAndSwapUint64", "internal/race.Write", "sync.runtime_SemacquireWaitGroup"], unfollowed := true, recurses := true, leaving := true, apart := false, narrowed := true }
def FnExactSwapWayUptoSaid : Prop := fnExactSwapWayUptoRow.holds Try.pinned (OpenSpec.upto fnExactSwapWaySpec)

/-- 'laws.FnExactSwapCounts', WHERE WHAT IT READS IS OF BULK AT MOST 1048576: true; the input reads as it did. -/
def fnExactSwapCountsUptoRow : OpenClaim := { program := "ytoglcpbkmenlbaa", sum := "9be040783bfe45ce717d7ca775f1a351cdcb88aabadfa9e362b86d69dcb0e301", func := "loop.example/ringorders/laws.FnExactSwapCounts", spec := "fnExactSwapCounts", inPlace := ["(*sync.WaitGroup).Add", "internal/race.ReleaseMerge", "internal/race.Disable", "internal/race.Enable", "internal/synctest.IsInBubble", "internal/synctest.Associate[sync.WaitGroup]", "sync.fatal", "sync/atomic.OrUint64", "sync/atomic.AddUint64", "internal/race.Read", "sync/atomic.LoadUint64", "sync/atomic.StoreUint64", "internal/synctest.Disassociate[sync.WaitGroup]", "sync.runtime_Semrelease", "(*sync.WaitGroup).Done", "(*sync.WaitGroup).Wait", "internal/race.Acquire", "internal/synctest.IsAssociated[sync.WaitGroup]", "sync/atomic.CompareAndSwapUint64", "internal/race.Write", "sync.runtime_SemacquireWaitGroup"], unfollowed := true, recurses := true, leaving := true, apart := false, narrowed := true }
def FnExactSwapCountsUptoSaid : Prop := fnExactSwapCountsUptoRow.holds Try.pinned (OpenSpec.upto fnExactSwapCountsSpec)

/-- 'laws.FnExactSwapMiddle', WHERE WHAT IT READS IS OF BULK AT MOST 1048576: true; the input reads as it did. -/
def fnExactSwapMiddleUptoRow : OpenClaim := { program := "ytoglcpbkmenlbaa", sum := "9be040783bfe45ce717d7ca775f1a351cdcb88aabadfa9e362b86d69dcb0e301", func := "loop.example/ringorders/laws.FnExactSwapMiddle", spec := "fnExactSwapMiddle", inPlace := ["(*sync.WaitGroup).Add", "internal/race.ReleaseMerge", "internal/race.Disable", "internal/race.Enable", "internal/synctest.IsInBubble", "internal/synctest.Associate[sync.WaitGroup]", "sync.fatal", "sync/atomic.OrUint64", "sync/atomic.AddUint64", "internal/race.Read", "sync/atomic.LoadUint64", "sync/atomic.StoreUint64", "internal/synctest.Disassociate[sync.WaitGroup]", "sync.runtime_Semrelease", "(*sync.WaitGroup).Done", "(*sync.WaitGroup).Wait", "internal/race.Acquire", "internal/synctest.IsAssociated[sync.WaitGroup]", "sync/atomic.CompareAndSwapUint64", "internal/race.Write", "sync.runtime_SemacquireWaitGroup"], unfollowed := true, recurses := true, leaving := true, apart := false, narrowed := true }
def FnExactSwapMiddleUptoSaid : Prop := fnExactSwapMiddleUptoRow.holds Try.pinned (OpenSpec.upto fnExactSwapMiddleSpec)

/-- 'laws.FnExactSwapBack', WHERE WHAT IT READS IS OF BULK AT MOST 1048576: true; the input reads as it did. -/
def fnExactSwapBackUptoRow : OpenClaim := { program := "ytoglcpbkmenlbaa", sum := "9be040783bfe45ce717d7ca775f1a351cdcb88aabadfa9e362b86d69dcb0e301", func := "loop.example/ringorders/laws.FnExactSwapBack", spec := "fnExactSwapBack", inPlace := ["(*sync.WaitGroup).Add", "internal/race.ReleaseMerge", "internal/race.Disable", "internal/race.Enable", "internal/synctest.IsInBubble", "internal/synctest.Associate[sync.WaitGroup]", "sync.fatal", "sync/atomic.OrUint64", "sync/atomic.AddUint64", "internal/race.Read", "sync/atomic.LoadUint64", "sync/atomic.StoreUint64", "internal/synctest.Disassociate[sync.WaitGroup]", "sync.runtime_Semrelease", "(*sync.WaitGroup).Done", "(*sync.WaitGroup).Wait", "internal/race.Acquire", "internal/synctest.IsAssociated[sync.WaitGroup]", "sync/atomic.CompareAndSwapUint64", "internal/race.Write", "sync.runtime_SemacquireWaitGroup"], unfollowed := true, recurses := true, leaving := true, apart := false, narrowed := true }
def FnExactSwapBackUptoSaid : Prop := fnExactSwapBackUptoRow.holds Try.pinned (OpenSpec.upto fnExactSwapBackSpec)

end Rows
end Go.Proofs.Ytoglcpbkmenlbaa
