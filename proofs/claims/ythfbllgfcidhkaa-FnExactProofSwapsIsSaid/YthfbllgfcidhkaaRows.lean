/-
  No cell of these rows narrows 'for every input' (looked for: loops, veiled, ifaces, maps, wideKeys, modest, calm, conditions, laid).
  DERIVED. THE GIVEN ROWS OF THIS SEAT. 6 by the template 'for every input the law returns true; each argument reads behind the call as it read before'; 0 by the template 'total and deterministic' (their statements: YthfbllgfcidhkaaTotals.lean).
  GIVEN WITH THE SEED: the statements are not yours to turn. If you find one false, say at which input.
  Laid BY PROGRAM, IN A SANDBOX (cutbox-rows.mjs): the forced cells as the released guide's own fill.sh prints them over the translation e3f176a2c7bbd6ab… (all of the seat's roots in one cut). By AI agents, Wed Nov 11 2026. No macro, syntax, notation, axiom, sorry.
-/
import Derived.Test.YthfbllgfcidhkaaChecked
import GoSem.Claim
import GoSem.ClaimJoined
import GoSem.ClaimMapViews
import Derived.JoinedTies
import Derived.KernelRfl
namespace Go.Proofs.Ythfbllgfcidhkaa
/- THE CELL 'sum', in the pinned program and in every row, IS THE sha256 OF THE DUMP (.gsa) THAT YthfbllgfcidhkaaProg.lean LOADS. Nothing in Lean hashes anything: it is a label: what it is worth is what the hold of that sum in a sandbox is worth. -/
noncomputable def Try.pinned : Pinned := { name := "ythfbllgfcidhkaa", sum := "e3f176a2c7bbd6ab3459c5dde8ce8a81fde475cda75be34c61aed831b1834077", checked := Try.checked }
namespace Rows
def none {H : Type} : Left H := { results := [], args := [] }

/-- 'laws.FnExactProofClashIs': WHATEVER THE INPUT: true; the input reads as it did. -/
def fnExactProofClashIsSpec : ChangeSpec := { name := "fnExactProofClashIs", fn := fun _ => fun
  | [d1, d2, d3] => { results := [.lit (.bool true)], args := [d1, d2, d3] }
  | _ => none }
def fnExactProofClashIsRow : OpenClaim := { program := "ythfbllgfcidhkaa", sum := "e3f176a2c7bbd6ab3459c5dde8ce8a81fde475cda75be34c61aed831b1834077", func := "loop.example/ringorders/laws.FnExactProofClashIs", spec := "fnExactProofClashIs", unfollowed := true, recurses := true, plainKeys := false, apart := false }
def FnExactProofClashIsSaid : Prop := fnExactProofClashIsRow.holds Try.pinned (OpenSpec.ofChange fnExactProofClashIsSpec)

/-- ITS FALSE NEIGHBOUR: 'it returns false'. Refute it at one input. -/
def fnExactProofClashIsWrong : ChangeSpec := { name := "fnExactProofClashIs", fn := fun _ => fun
  | [d1, d2, d3] => { results := [.lit (.bool false)], args := [d1, d2, d3] }
  | _ => none }
def FnExactProofClashIsWrongFalsely : Prop := fnExactProofClashIsRow.holds Try.pinned (OpenSpec.ofChange fnExactProofClashIsWrong)

/-- 'laws.FnExactProofSwapsIs': WHATEVER THE INPUT: true; the input reads as it did. -/
def fnExactProofSwapsIsSpec : ChangeSpec := { name := "fnExactProofSwapsIs", fn := fun _ => fun
  | [d1, d2, d3] => { results := [.lit (.bool true)], args := [d1, d2, d3] }
  | _ => none }
def fnExactProofSwapsIsRow : OpenClaim := { program := "ythfbllgfcidhkaa", sum := "e3f176a2c7bbd6ab3459c5dde8ce8a81fde475cda75be34c61aed831b1834077", func := "loop.example/ringorders/laws.FnExactProofSwapsIs", spec := "fnExactProofSwapsIs", unfollowed := true, recurses := true, plainKeys := false, apart := false }
def FnExactProofSwapsIsSaid : Prop := fnExactProofSwapsIsRow.holds Try.pinned (OpenSpec.ofChange fnExactProofSwapsIsSpec)

/-- ITS FALSE NEIGHBOUR: 'it returns false'. Refute it at one input. -/
def fnExactProofSwapsIsWrong : ChangeSpec := { name := "fnExactProofSwapsIs", fn := fun _ => fun
  | [d1, d2, d3] => { results := [.lit (.bool false)], args := [d1, d2, d3] }
  | _ => none }
def FnExactProofSwapsIsWrongFalsely : Prop := fnExactProofSwapsIsRow.holds Try.pinned (OpenSpec.ofChange fnExactProofSwapsIsWrong)

/-- 'laws.FnExactThreeAll': WHATEVER THE INPUT: true; the input reads as it did. -/
def fnExactThreeAllSpec : ChangeSpec := { name := "fnExactThreeAll", fn := fun _ => fun
  | [d] => { results := [.lit (.bool true)], args := [d] }
  | _ => none }
def fnExactThreeAllRow : OpenClaim := { program := "ythfbllgfcidhkaa", sum := "e3f176a2c7bbd6ab3459c5dde8ce8a81fde475cda75be34c61aed831b1834077", func := "loop.example/ringorders/laws.FnExactThreeAll", spec := "fnExactThreeAll", unfollowed := true, recurses := true, plainKeys := false, apart := false }
def FnExactThreeAllSaid : Prop := fnExactThreeAllRow.holds Try.pinned (OpenSpec.ofChange fnExactThreeAllSpec)

/-- ITS FALSE NEIGHBOUR: 'it returns false'. Refute it at one input. -/
def fnExactThreeAllWrong : ChangeSpec := { name := "fnExactThreeAll", fn := fun _ => fun
  | [d] => { results := [.lit (.bool false)], args := [d] }
  | _ => none }
def FnExactThreeAllWrongFalsely : Prop := fnExactThreeAllRow.holds Try.pinned (OpenSpec.ofChange fnExactThreeAllWrong)

/-- 'laws.FnExactThreeClose': WHATEVER THE INPUT: true; the input reads as it did. -/
def fnExactThreeCloseSpec : ChangeSpec := { name := "fnExactThreeClose", fn := fun _ => fun
  | [d1, d2] => { results := [.lit (.bool true)], args := [d1, d2] }
  | _ => none }
def fnExactThreeCloseRow : OpenClaim := { program := "ythfbllgfcidhkaa", sum := "e3f176a2c7bbd6ab3459c5dde8ce8a81fde475cda75be34c61aed831b1834077", func := "loop.example/ringorders/laws.FnExactThreeClose", spec := "fnExactThreeClose", unfollowed := true, recurses := true, plainKeys := false, apart := false }
def FnExactThreeCloseSaid : Prop := fnExactThreeCloseRow.holds Try.pinned (OpenSpec.ofChange fnExactThreeCloseSpec)

/-- ITS FALSE NEIGHBOUR: 'it returns false'. Refute it at one input. -/
def fnExactThreeCloseWrong : ChangeSpec := { name := "fnExactThreeClose", fn := fun _ => fun
  | [d1, d2] => { results := [.lit (.bool false)], args := [d1, d2] }
  | _ => none }
def FnExactThreeCloseWrongFalsely : Prop := fnExactThreeCloseRow.holds Try.pinned (OpenSpec.ofChange fnExactThreeCloseWrong)

/-- 'laws.FnExactThreeSure': WHATEVER THE INPUT: true; the input reads as it did. -/
def fnExactThreeSureSpec : ChangeSpec := { name := "fnExactThreeSure", fn := fun _ => fun
  | [d1, d2] => { results := [.lit (.bool true)], args := [d1, d2] }
  | _ => none }
def fnExactThreeSureRow : OpenClaim := { program := "ythfbllgfcidhkaa", sum := "e3f176a2c7bbd6ab3459c5dde8ce8a81fde475cda75be34c61aed831b1834077", func := "loop.example/ringorders/laws.FnExactThreeSure", spec := "fnExactThreeSure", unfollowed := true, recurses := true, plainKeys := false, apart := false }
def FnExactThreeSureSaid : Prop := fnExactThreeSureRow.holds Try.pinned (OpenSpec.ofChange fnExactThreeSureSpec)

/-- ITS FALSE NEIGHBOUR: 'it returns false'. Refute it at one input. -/
def fnExactThreeSureWrong : ChangeSpec := { name := "fnExactThreeSure", fn := fun _ => fun
  | [d1, d2] => { results := [.lit (.bool false)], args := [d1, d2] }
  | _ => none }
def FnExactThreeSureWrongFalsely : Prop := fnExactThreeSureRow.holds Try.pinned (OpenSpec.ofChange fnExactThreeSureWrong)

/-- 'laws.FnExactThreeBack': WHATEVER THE INPUT: true; the input reads as it did. -/
def fnExactThreeBackSpec : ChangeSpec := { name := "fnExactThreeBack", fn := fun _ => fun
  | [d1, d2] => { results := [.lit (.bool true)], args := [d1, d2] }
  | _ => none }
def fnExactThreeBackRow : OpenClaim := { program := "ythfbllgfcidhkaa", sum := "e3f176a2c7bbd6ab3459c5dde8ce8a81fde475cda75be34c61aed831b1834077", func := "loop.example/ringorders/laws.FnExactThreeBack", spec := "fnExactThreeBack", unfollowed := true, recurses := true, plainKeys := false, apart := false }
def FnExactThreeBackSaid : Prop := fnExactThreeBackRow.holds Try.pinned (OpenSpec.ofChange fnExactThreeBackSpec)

/-- ITS FALSE NEIGHBOUR: 'it returns false'. Refute it at one input. -/
def fnExactThreeBackWrong : ChangeSpec := { name := "fnExactThreeBack", fn := fun _ => fun
  | [d1, d2] => { results := [.lit (.bool false)], args := [d1, d2] }
  | _ => none }
def FnExactThreeBackWrongFalsely : Prop := fnExactThreeBackRow.holds Try.pinned (OpenSpec.ofChange fnExactThreeBackWrong)

/- THE SECOND FORM. 'bulk': how many values and letters a reading holds, each counted each time it is reached (what is shared counts as often as it is met; a slice's spare places count too). A statement '..UptoSaid' is the law's where the arguments, and the package variables that the reading takes, are together of bulk at most 1048576: NARROWER than '..Said'. Prove '..Said' where nothing that the law and all that it calls make is longer than what came in: it says more and counts as full. Else prove '..UptoSaid'. A law counts once. -/
mutual
def uptoBulk {H : Type} : DataW H → Nat
  | .lit (.string bytes) => bytes.length + 1
  | .lit _ => 1
  | .nil => 1
  | .ptr d => uptoBulk d + 1
  | .slice elems spare => uptoBulkAll elems + uptoBulkAll spare + 1
  | .agg parts => uptoBulkAll parts + 1
  | .iface _ d => uptoBulk d + 1
  | .map entries => uptoBulkEntries entries + 1
  | .held _ => 1
def uptoBulkAll {H : Type} : List (DataW H) → Nat
  | [] => 0
  | d :: r => uptoBulk d + uptoBulkAll r
def uptoBulkEntries {H : Type} : List (Lit × DataW H) → Nat
  | [] => 0
  | x :: r => uptoBulkEntry x + uptoBulkEntries r
def uptoBulkEntry {H : Type} : Lit × DataW H → Nat
  | (.string bytes, d) => bytes.length + uptoBulk d + 1
  | (_, d) => uptoBulk d + 1
 end
def uptoSmall : (H : Type) → List (DataW H) → Bool := fun _ ds => decide (uptoBulkAll ds ≤ 1048576)
def OpenSpec.upto (s : _root_.Go.ChangeSpec) : _root_.Go.OpenSpec := { _root_.Go.OpenSpec.ofChange s with cond := some uptoSmall }

/-- 'laws.FnExactProofClashIs', WHERE WHAT IT READS IS OF BULK AT MOST 1048576: true; the input reads as it did. -/
def fnExactProofClashIsUptoRow : OpenClaim := { program := "ythfbllgfcidhkaa", sum := "e3f176a2c7bbd6ab3459c5dde8ce8a81fde475cda75be34c61aed831b1834077", func := "loop.example/ringorders/laws.FnExactProofClashIs", spec := "fnExactProofClashIs", unfollowed := true, recurses := true, plainKeys := false, apart := false, narrowed := true }
def FnExactProofClashIsUptoSaid : Prop := fnExactProofClashIsUptoRow.holds Try.pinned (OpenSpec.upto fnExactProofClashIsSpec)

/-- 'laws.FnExactProofSwapsIs', WHERE WHAT IT READS IS OF BULK AT MOST 1048576: true; the input reads as it did. -/
def fnExactProofSwapsIsUptoRow : OpenClaim := { program := "ythfbllgfcidhkaa", sum := "e3f176a2c7bbd6ab3459c5dde8ce8a81fde475cda75be34c61aed831b1834077", func := "loop.example/ringorders/laws.FnExactProofSwapsIs", spec := "fnExactProofSwapsIs", unfollowed := true, recurses := true, plainKeys := false, apart := false, narrowed := true }
def FnExactProofSwapsIsUptoSaid : Prop := fnExactProofSwapsIsUptoRow.holds Try.pinned (OpenSpec.upto fnExactProofSwapsIsSpec)

/-- 'laws.FnExactThreeAll', WHERE WHAT IT READS IS OF BULK AT MOST 1048576: true; the input reads as it did. -/
def fnExactThreeAllUptoRow : OpenClaim := { program := "ythfbllgfcidhkaa", sum := "e3f176a2c7bbd6ab3459c5dde8ce8a81fde475cda75be34c61aed831b1834077", func := "loop.example/ringorders/laws.FnExactThreeAll", spec := "fnExactThreeAll", unfollowed := true, recurses := true, plainKeys := false, apart := false, narrowed := true }
def FnExactThreeAllUptoSaid : Prop := fnExactThreeAllUptoRow.holds Try.pinned (OpenSpec.upto fnExactThreeAllSpec)

/-- 'laws.FnExactThreeClose', WHERE WHAT IT READS IS OF BULK AT MOST 1048576: true; the input reads as it did. -/
def fnExactThreeCloseUptoRow : OpenClaim := { program := "ythfbllgfcidhkaa", sum := "e3f176a2c7bbd6ab3459c5dde8ce8a81fde475cda75be34c61aed831b1834077", func := "loop.example/ringorders/laws.FnExactThreeClose", spec := "fnExactThreeClose", unfollowed := true, recurses := true, plainKeys := false, apart := false, narrowed := true }
def FnExactThreeCloseUptoSaid : Prop := fnExactThreeCloseUptoRow.holds Try.pinned (OpenSpec.upto fnExactThreeCloseSpec)

/-- 'laws.FnExactThreeSure', WHERE WHAT IT READS IS OF BULK AT MOST 1048576: true; the input reads as it did. -/
def fnExactThreeSureUptoRow : OpenClaim := { program := "ythfbllgfcidhkaa", sum := "e3f176a2c7bbd6ab3459c5dde8ce8a81fde475cda75be34c61aed831b1834077", func := "loop.example/ringorders/laws.FnExactThreeSure", spec := "fnExactThreeSure", unfollowed := true, recurses := true, plainKeys := false, apart := false, narrowed := true }
def FnExactThreeSureUptoSaid : Prop := fnExactThreeSureUptoRow.holds Try.pinned (OpenSpec.upto fnExactThreeSureSpec)

/-- 'laws.FnExactThreeBack', WHERE WHAT IT READS IS OF BULK AT MOST 1048576: true; the input reads as it did. -/
def fnExactThreeBackUptoRow : OpenClaim := { program := "ythfbllgfcidhkaa", sum := "e3f176a2c7bbd6ab3459c5dde8ce8a81fde475cda75be34c61aed831b1834077", func := "loop.example/ringorders/laws.FnExactThreeBack", spec := "fnExactThreeBack", unfollowed := true, recurses := true, plainKeys := false, apart := false, narrowed := true }
def FnExactThreeBackUptoSaid : Prop := fnExactThreeBackUptoRow.holds Try.pinned (OpenSpec.upto fnExactThreeBackSpec)

end Rows
end Go.Proofs.Ythfbllgfcidhkaa
