/-
  No cell of these rows narrows 'for every input' (looked for: loops, veiled, ifaces, maps, wideKeys, modest, calm, conditions, laid).
  DERIVED. THE GIVEN ROWS OF THIS SEAT. 12 by the template 'for every input the law returns true; each argument reads behind the call as it read before'; 0 by the template 'total and deterministic' (their statements: YtnepagdfhoefpaaTotals.lean).
  GIVEN WITH THE SEED: the statements are not yours to turn. If you find one false, say at which input.
  Laid BY PROGRAM, IN A SANDBOX (cutbox-rows.mjs): the forced cells as the released guide's own fill.sh prints them over the translation e821f58bdd8fda1c… (all of the seat's roots in one cut). By AI agents, Wed Nov 11 2026. No macro, syntax, notation, axiom, sorry.
-/
import Derived.Test.YtnepagdfhoefpaaChecked
import GoSem.Claim
import GoSem.ClaimJoined
import GoSem.ClaimMapViews
import Derived.JoinedTies
import Derived.KernelRfl
namespace Go.Proofs.Ytnepagdfhoefpaa
/- THE CELL 'sum', in the pinned program and in every row, IS THE sha256 OF THE DUMP (.gsa) THAT YtnepagdfhoefpaaProg.lean LOADS. Nothing in Lean hashes anything: it is a label: what it is worth is what the hold of that sum in a sandbox is worth. -/
noncomputable def Try.pinned : Pinned := { name := "ytnepagdfhoefpaa", sum := "e821f58bdd8fda1c021077aaf85ee22d6ff8952ad6cdc3c38c0f2c887dbd1ad7", checked := Try.checked }
namespace Rows
def none {H : Type} : Left H := { results := [], args := [] }

/-- 'laws.FnExactRingIn': WHATEVER THE INPUT: true; the input reads as it did. -/
def fnExactRingInSpec : ChangeSpec := { name := "fnExactRingIn", fn := fun _ => fun
  | [d] => { results := [.lit (.bool true)], args := [d] }
  | _ => none }
def fnExactRingInRow : OpenClaim := { program := "ytnepagdfhoefpaa", sum := "e821f58bdd8fda1c021077aaf85ee22d6ff8952ad6cdc3c38c0f2c887dbd1ad7", func := "loop.example/ringorders/laws.FnExactRingIn", spec := "fnExactRingIn", apart := false }
def FnExactRingInSaid : Prop := fnExactRingInRow.holds Try.pinned (OpenSpec.ofChange fnExactRingInSpec)

/-- ITS FALSE NEIGHBOUR: 'it returns false'. Refute it at one input. -/
def fnExactRingInWrong : ChangeSpec := { name := "fnExactRingIn", fn := fun _ => fun
  | [d] => { results := [.lit (.bool false)], args := [d] }
  | _ => none }
def FnExactRingInWrongFalsely : Prop := fnExactRingInRow.holds Try.pinned (OpenSpec.ofChange fnExactRingInWrong)

/-- 'laws.FnExactRingOf': WHATEVER THE INPUT: true; the input reads as it did. -/
def fnExactRingOfSpec : ChangeSpec := { name := "fnExactRingOf", fn := fun _ => fun
  | [d] => { results := [.lit (.bool true)], args := [d] }
  | _ => none }
def fnExactRingOfRow : OpenClaim := { program := "ytnepagdfhoefpaa", sum := "e821f58bdd8fda1c021077aaf85ee22d6ff8952ad6cdc3c38c0f2c887dbd1ad7", func := "loop.example/ringorders/laws.FnExactRingOf", spec := "fnExactRingOf", apart := false }
def FnExactRingOfSaid : Prop := fnExactRingOfRow.holds Try.pinned (OpenSpec.ofChange fnExactRingOfSpec)

/-- ITS FALSE NEIGHBOUR: 'it returns false'. Refute it at one input. -/
def fnExactRingOfWrong : ChangeSpec := { name := "fnExactRingOf", fn := fun _ => fun
  | [d] => { results := [.lit (.bool false)], args := [d] }
  | _ => none }
def FnExactRingOfWrongFalsely : Prop := fnExactRingOfRow.holds Try.pinned (OpenSpec.ofChange fnExactRingOfWrong)

/-- 'laws.FnExactRingBack': WHATEVER THE INPUT: true; the input reads as it did. -/
def fnExactRingBackSpec : ChangeSpec := { name := "fnExactRingBack", fn := fun _ => fun
  | [d] => { results := [.lit (.bool true)], args := [d] }
  | _ => none }
def fnExactRingBackRow : OpenClaim := { program := "ytnepagdfhoefpaa", sum := "e821f58bdd8fda1c021077aaf85ee22d6ff8952ad6cdc3c38c0f2c887dbd1ad7", func := "loop.example/ringorders/laws.FnExactRingBack", spec := "fnExactRingBack", apart := false }
def FnExactRingBackSaid : Prop := fnExactRingBackRow.holds Try.pinned (OpenSpec.ofChange fnExactRingBackSpec)

/-- ITS FALSE NEIGHBOUR: 'it returns false'. Refute it at one input. -/
def fnExactRingBackWrong : ChangeSpec := { name := "fnExactRingBack", fn := fun _ => fun
  | [d] => { results := [.lit (.bool false)], args := [d] }
  | _ => none }
def FnExactRingBackWrongFalsely : Prop := fnExactRingBackRow.holds Try.pinned (OpenSpec.ofChange fnExactRingBackWrong)

/-- 'laws.FnExactRingCut': WHATEVER THE INPUT: true; the input reads as it did. -/
def fnExactRingCutSpec : ChangeSpec := { name := "fnExactRingCut", fn := fun _ => fun
  | [d1, d2] => { results := [.lit (.bool true)], args := [d1, d2] }
  | _ => none }
def fnExactRingCutRow : OpenClaim := { program := "ytnepagdfhoefpaa", sum := "e821f58bdd8fda1c021077aaf85ee22d6ff8952ad6cdc3c38c0f2c887dbd1ad7", func := "loop.example/ringorders/laws.FnExactRingCut", spec := "fnExactRingCut", apart := false }
def FnExactRingCutSaid : Prop := fnExactRingCutRow.holds Try.pinned (OpenSpec.ofChange fnExactRingCutSpec)

/-- ITS FALSE NEIGHBOUR: 'it returns false'. Refute it at one input. -/
def fnExactRingCutWrong : ChangeSpec := { name := "fnExactRingCut", fn := fun _ => fun
  | [d1, d2] => { results := [.lit (.bool false)], args := [d1, d2] }
  | _ => none }
def FnExactRingCutWrongFalsely : Prop := fnExactRingCutRow.holds Try.pinned (OpenSpec.ofChange fnExactRingCutWrong)

/-- 'laws.FnExactRingNext': WHATEVER THE INPUT: true; the input reads as it did. -/
def fnExactRingNextSpec : ChangeSpec := { name := "fnExactRingNext", fn := fun _ => fun
  | [d1, d2] => { results := [.lit (.bool true)], args := [d1, d2] }
  | _ => none }
def fnExactRingNextRow : OpenClaim := { program := "ytnepagdfhoefpaa", sum := "e821f58bdd8fda1c021077aaf85ee22d6ff8952ad6cdc3c38c0f2c887dbd1ad7", func := "loop.example/ringorders/laws.FnExactRingNext", spec := "fnExactRingNext", apart := false }
def FnExactRingNextSaid : Prop := fnExactRingNextRow.holds Try.pinned (OpenSpec.ofChange fnExactRingNextSpec)

/-- ITS FALSE NEIGHBOUR: 'it returns false'. Refute it at one input. -/
def fnExactRingNextWrong : ChangeSpec := { name := "fnExactRingNext", fn := fun _ => fun
  | [d1, d2] => { results := [.lit (.bool false)], args := [d1, d2] }
  | _ => none }
def FnExactRingNextWrongFalsely : Prop := fnExactRingNextRow.holds Try.pinned (OpenSpec.ofChange fnExactRingNextWrong)

/-- 'laws.FnExactRingFrom': WHATEVER THE INPUT: true; the input reads as it did. -/
def fnExactRingFromSpec : ChangeSpec := { name := "fnExactRingFrom", fn := fun _ => fun
  | [d1, d2, d3] => { results := [.lit (.bool true)], args := [d1, d2, d3] }
  | _ => none }
def fnExactRingFromRow : OpenClaim := { program := "ytnepagdfhoefpaa", sum := "e821f58bdd8fda1c021077aaf85ee22d6ff8952ad6cdc3c38c0f2c887dbd1ad7", func := "loop.example/ringorders/laws.FnExactRingFrom", spec := "fnExactRingFrom", apart := false }
def FnExactRingFromSaid : Prop := fnExactRingFromRow.holds Try.pinned (OpenSpec.ofChange fnExactRingFromSpec)

/-- ITS FALSE NEIGHBOUR: 'it returns false'. Refute it at one input. -/
def fnExactRingFromWrong : ChangeSpec := { name := "fnExactRingFrom", fn := fun _ => fun
  | [d1, d2, d3] => { results := [.lit (.bool false)], args := [d1, d2, d3] }
  | _ => none }
def FnExactRingFromWrongFalsely : Prop := fnExactRingFromRow.holds Try.pinned (OpenSpec.ofChange fnExactRingFromWrong)

/-- 'laws.FnExactRingSteps': WHATEVER THE INPUT: true; the input reads as it did. -/
def fnExactRingStepsSpec : ChangeSpec := { name := "fnExactRingSteps", fn := fun _ => fun
  | [d1, d2, d3] => { results := [.lit (.bool true)], args := [d1, d2, d3] }
  | _ => none }
def fnExactRingStepsRow : OpenClaim := { program := "ytnepagdfhoefpaa", sum := "e821f58bdd8fda1c021077aaf85ee22d6ff8952ad6cdc3c38c0f2c887dbd1ad7", func := "loop.example/ringorders/laws.FnExactRingSteps", spec := "fnExactRingSteps", apart := false }
def FnExactRingStepsSaid : Prop := fnExactRingStepsRow.holds Try.pinned (OpenSpec.ofChange fnExactRingStepsSpec)

/-- ITS FALSE NEIGHBOUR: 'it returns false'. Refute it at one input. -/
def fnExactRingStepsWrong : ChangeSpec := { name := "fnExactRingSteps", fn := fun _ => fun
  | [d1, d2, d3] => { results := [.lit (.bool false)], args := [d1, d2, d3] }
  | _ => none }
def FnExactRingStepsWrongFalsely : Prop := fnExactRingStepsRow.holds Try.pinned (OpenSpec.ofChange fnExactRingStepsWrong)

/-- 'laws.FnExactRingNamed': WHATEVER THE INPUT: true; the input reads as it did. -/
def fnExactRingNamedSpec : ChangeSpec := { name := "fnExactRingNamed", fn := fun _ => fun
  | [d1, d2] => { results := [.lit (.bool true)], args := [d1, d2] }
  | _ => none }
def fnExactRingNamedRow : OpenClaim := { program := "ytnepagdfhoefpaa", sum := "e821f58bdd8fda1c021077aaf85ee22d6ff8952ad6cdc3c38c0f2c887dbd1ad7", func := "loop.example/ringorders/laws.FnExactRingNamed", spec := "fnExactRingNamed", apart := false }
def FnExactRingNamedSaid : Prop := fnExactRingNamedRow.holds Try.pinned (OpenSpec.ofChange fnExactRingNamedSpec)

/-- ITS FALSE NEIGHBOUR: 'it returns false'. Refute it at one input. -/
def fnExactRingNamedWrong : ChangeSpec := { name := "fnExactRingNamed", fn := fun _ => fun
  | [d1, d2] => { results := [.lit (.bool false)], args := [d1, d2] }
  | _ => none }
def FnExactRingNamedWrongFalsely : Prop := fnExactRingNamedRow.holds Try.pinned (OpenSpec.ofChange fnExactRingNamedWrong)

/-- 'laws.FnExactRingNumber': WHATEVER THE INPUT: true; the input reads as it did. -/
def fnExactRingNumberSpec : ChangeSpec := { name := "fnExactRingNumber", fn := fun _ => fun
  | [d] => { results := [.lit (.bool true)], args := [d] }
  | _ => none }
def fnExactRingNumberRow : OpenClaim := { program := "ytnepagdfhoefpaa", sum := "e821f58bdd8fda1c021077aaf85ee22d6ff8952ad6cdc3c38c0f2c887dbd1ad7", func := "loop.example/ringorders/laws.FnExactRingNumber", spec := "fnExactRingNumber", apart := false }
def FnExactRingNumberSaid : Prop := fnExactRingNumberRow.holds Try.pinned (OpenSpec.ofChange fnExactRingNumberSpec)

/-- ITS FALSE NEIGHBOUR: 'it returns false'. Refute it at one input. -/
def fnExactRingNumberWrong : ChangeSpec := { name := "fnExactRingNumber", fn := fun _ => fun
  | [d] => { results := [.lit (.bool false)], args := [d] }
  | _ => none }
def FnExactRingNumberWrongFalsely : Prop := fnExactRingNumberRow.holds Try.pinned (OpenSpec.ofChange fnExactRingNumberWrong)

/-- 'laws.FnExactRingBy': WHATEVER THE INPUT: true; the input reads as it did. -/
def fnExactRingBySpec : ChangeSpec := { name := "fnExactRingBy", fn := fun _ => fun
  | [d1, d2] => { results := [.lit (.bool true)], args := [d1, d2] }
  | _ => none }
def fnExactRingByRow : OpenClaim := { program := "ytnepagdfhoefpaa", sum := "e821f58bdd8fda1c021077aaf85ee22d6ff8952ad6cdc3c38c0f2c887dbd1ad7", func := "loop.example/ringorders/laws.FnExactRingBy", spec := "fnExactRingBy", apart := false }
def FnExactRingBySaid : Prop := fnExactRingByRow.holds Try.pinned (OpenSpec.ofChange fnExactRingBySpec)

/-- ITS FALSE NEIGHBOUR: 'it returns false'. Refute it at one input. -/
def fnExactRingByWrong : ChangeSpec := { name := "fnExactRingBy", fn := fun _ => fun
  | [d1, d2] => { results := [.lit (.bool false)], args := [d1, d2] }
  | _ => none }
def FnExactRingByWrongFalsely : Prop := fnExactRingByRow.holds Try.pinned (OpenSpec.ofChange fnExactRingByWrong)

/-- 'laws.FnExactRingCount': WHATEVER THE INPUT: true; the input reads as it did. -/
def fnExactRingCountSpec : ChangeSpec := { name := "fnExactRingCount", fn := fun _ => fun
  | [d] => { results := [.lit (.bool true)], args := [d] }
  | _ => none }
def fnExactRingCountRow : OpenClaim := { program := "ytnepagdfhoefpaa", sum := "e821f58bdd8fda1c021077aaf85ee22d6ff8952ad6cdc3c38c0f2c887dbd1ad7", func := "loop.example/ringorders/laws.FnExactRingCount", spec := "fnExactRingCount", apart := false }
def FnExactRingCountSaid : Prop := fnExactRingCountRow.holds Try.pinned (OpenSpec.ofChange fnExactRingCountSpec)

/-- ITS FALSE NEIGHBOUR: 'it returns false'. Refute it at one input. -/
def fnExactRingCountWrong : ChangeSpec := { name := "fnExactRingCount", fn := fun _ => fun
  | [d] => { results := [.lit (.bool false)], args := [d] }
  | _ => none }
def FnExactRingCountWrongFalsely : Prop := fnExactRingCountRow.holds Try.pinned (OpenSpec.ofChange fnExactRingCountWrong)

/-- 'laws.FnExactRingDrop': WHATEVER THE INPUT: true; the input reads as it did. -/
def fnExactRingDropSpec : ChangeSpec := { name := "fnExactRingDrop", fn := fun _ => fun
  | [d] => { results := [.lit (.bool true)], args := [d] }
  | _ => none }
def fnExactRingDropRow : OpenClaim := { program := "ytnepagdfhoefpaa", sum := "e821f58bdd8fda1c021077aaf85ee22d6ff8952ad6cdc3c38c0f2c887dbd1ad7", func := "loop.example/ringorders/laws.FnExactRingDrop", spec := "fnExactRingDrop", apart := false }
def FnExactRingDropSaid : Prop := fnExactRingDropRow.holds Try.pinned (OpenSpec.ofChange fnExactRingDropSpec)

/-- ITS FALSE NEIGHBOUR: 'it returns false'. Refute it at one input. -/
def fnExactRingDropWrong : ChangeSpec := { name := "fnExactRingDrop", fn := fun _ => fun
  | [d] => { results := [.lit (.bool false)], args := [d] }
  | _ => none }
def FnExactRingDropWrongFalsely : Prop := fnExactRingDropRow.holds Try.pinned (OpenSpec.ofChange fnExactRingDropWrong)

/- THE SECOND FORM. 'bulk': how many values and letters a reading holds, each counted each time it is reached (what is shared counts as often as it is met; a slice's spare places count too). A statement '..UptoSaid' is the law's where the arguments, and the package variables that the reading takes, are together of bulk at most 1048576: NARROWER than '..Said'. Prove '..Said' where nothing that the law and all that it calls make is longer than what came in: it says more and counts as full. Else prove '..UptoSaid'. A law counts once. -/
mutual
def uptoBulk {H : Type} : DataW H → Nat
  | .lit (.string bytes) => bytes.length + 1
  | .lit _ => 1
  | .nil => 1
  | .ptr d => uptoBulk d + 1
  | .slice elems spare => uptoBulkAll elems + uptoBulkAll spare + 1
  | .agg parts => uptoBulkAll parts + 1
  | .iface _ d => uptoBulk d + 1
  | .map entries => uptoBulkEntries entries + 1
  | .held _ => 1
def uptoBulkAll {H : Type} : List (DataW H) → Nat
  | [] => 0
  | d :: r => uptoBulk d + uptoBulkAll r
def uptoBulkEntries {H : Type} : List (Lit × DataW H) → Nat
  | [] => 0
  | x :: r => uptoBulkEntry x + uptoBulkEntries r
def uptoBulkEntry {H : Type} : Lit × DataW H → Nat
  | (.string bytes, d) => bytes.length + uptoBulk d + 1
  | (_, d) => uptoBulk d + 1
 end
def uptoSmall : (H : Type) → List (DataW H) → Bool := fun _ ds => decide (uptoBulkAll ds ≤ 1048576)
def OpenSpec.upto (s : _root_.Go.ChangeSpec) : _root_.Go.OpenSpec := { _root_.Go.OpenSpec.ofChange s with cond := some uptoSmall }

/-- 'laws.FnExactRingIn', WHERE WHAT IT READS IS OF BULK AT MOST 1048576: true; the input reads as it did. -/
def fnExactRingInUptoRow : OpenClaim := { program := "ytnepagdfhoefpaa", sum := "e821f58bdd8fda1c021077aaf85ee22d6ff8952ad6cdc3c38c0f2c887dbd1ad7", func := "loop.example/ringorders/laws.FnExactRingIn", spec := "fnExactRingIn", apart := false, narrowed := true }
def FnExactRingInUptoSaid : Prop := fnExactRingInUptoRow.holds Try.pinned (OpenSpec.upto fnExactRingInSpec)

/-- 'laws.FnExactRingOf', WHERE WHAT IT READS IS OF BULK AT MOST 1048576: true; the input reads as it did. -/
def fnExactRingOfUptoRow : OpenClaim := { program := "ytnepagdfhoefpaa", sum := "e821f58bdd8fda1c021077aaf85ee22d6ff8952ad6cdc3c38c0f2c887dbd1ad7", func := "loop.example/ringorders/laws.FnExactRingOf", spec := "fnExactRingOf", apart := false, narrowed := true }
def FnExactRingOfUptoSaid : Prop := fnExactRingOfUptoRow.holds Try.pinned (OpenSpec.upto fnExactRingOfSpec)

/-- 'laws.FnExactRingBack', WHERE WHAT IT READS IS OF BULK AT MOST 1048576: true; the input reads as it did. -/
def fnExactRingBackUptoRow : OpenClaim := { program := "ytnepagdfhoefpaa", sum := "e821f58bdd8fda1c021077aaf85ee22d6ff8952ad6cdc3c38c0f2c887dbd1ad7", func := "loop.example/ringorders/laws.FnExactRingBack", spec := "fnExactRingBack", apart := false, narrowed := true }
def FnExactRingBackUptoSaid : Prop := fnExactRingBackUptoRow.holds Try.pinned (OpenSpec.upto fnExactRingBackSpec)

/-- 'laws.FnExactRingCut', WHERE WHAT IT READS IS OF BULK AT MOST 1048576: true; the input reads as it did. -/
def fnExactRingCutUptoRow : OpenClaim := { program := "ytnepagdfhoefpaa", sum := "e821f58bdd8fda1c021077aaf85ee22d6ff8952ad6cdc3c38c0f2c887dbd1ad7", func := "loop.example/ringorders/laws.FnExactRingCut", spec := "fnExactRingCut", apart := false, narrowed := true }
def FnExactRingCutUptoSaid : Prop := fnExactRingCutUptoRow.holds Try.pinned (OpenSpec.upto fnExactRingCutSpec)

/-- 'laws.FnExactRingNext', WHERE WHAT IT READS IS OF BULK AT MOST 1048576: true; the input reads as it did. -/
def fnExactRingNextUptoRow : OpenClaim := { program := "ytnepagdfhoefpaa", sum := "e821f58bdd8fda1c021077aaf85ee22d6ff8952ad6cdc3c38c0f2c887dbd1ad7", func := "loop.example/ringorders/laws.FnExactRingNext", spec := "fnExactRingNext", apart := false, narrowed := true }
def FnExactRingNextUptoSaid : Prop := fnExactRingNextUptoRow.holds Try.pinned (OpenSpec.upto fnExactRingNextSpec)

/-- 'laws.FnExactRingFrom', WHERE WHAT IT READS IS OF BULK AT MOST 1048576: true; the input reads as it did. -/
def fnExactRingFromUptoRow : OpenClaim := { program := "ytnepagdfhoefpaa", sum := "e821f58bdd8fda1c021077aaf85ee22d6ff8952ad6cdc3c38c0f2c887dbd1ad7", func := "loop.example/ringorders/laws.FnExactRingFrom", spec := "fnExactRingFrom", apart := false, narrowed := true }
def FnExactRingFromUptoSaid : Prop := fnExactRingFromUptoRow.holds Try.pinned (OpenSpec.upto fnExactRingFromSpec)

/-- 'laws.FnExactRingSteps', WHERE WHAT IT READS IS OF BULK AT MOST 1048576: true; the input reads as it did. -/
def fnExactRingStepsUptoRow : OpenClaim := { program := "ytnepagdfhoefpaa", sum := "e821f58bdd8fda1c021077aaf85ee22d6ff8952ad6cdc3c38c0f2c887dbd1ad7", func := "loop.example/ringorders/laws.FnExactRingSteps", spec := "fnExactRingSteps", apart := false, narrowed := true }
def FnExactRingStepsUptoSaid : Prop := fnExactRingStepsUptoRow.holds Try.pinned (OpenSpec.upto fnExactRingStepsSpec)

/-- 'laws.FnExactRingNamed', WHERE WHAT IT READS IS OF BULK AT MOST 1048576: true; the input reads as it did. -/
def fnExactRingNamedUptoRow : OpenClaim := { program := "ytnepagdfhoefpaa", sum := "e821f58bdd8fda1c021077aaf85ee22d6ff8952ad6cdc3c38c0f2c887dbd1ad7", func := "loop.example/ringorders/laws.FnExactRingNamed", spec := "fnExactRingNamed", apart := false, narrowed := true }
def FnExactRingNamedUptoSaid : Prop := fnExactRingNamedUptoRow.holds Try.pinned (OpenSpec.upto fnExactRingNamedSpec)

/-- 'laws.FnExactRingNumber', WHERE WHAT IT READS IS OF BULK AT MOST 1048576: true; the input reads as it did. -/
def fnExactRingNumberUptoRow : OpenClaim := { program := "ytnepagdfhoefpaa", sum := "e821f58bdd8fda1c021077aaf85ee22d6ff8952ad6cdc3c38c0f2c887dbd1ad7", func := "loop.example/ringorders/laws.FnExactRingNumber", spec := "fnExactRingNumber", apart := false, narrowed := true }
def FnExactRingNumberUptoSaid : Prop := fnExactRingNumberUptoRow.holds Try.pinned (OpenSpec.upto fnExactRingNumberSpec)

/-- 'laws.FnExactRingBy', WHERE WHAT IT READS IS OF BULK AT MOST 1048576: true; the input reads as it did. -/
def fnExactRingByUptoRow : OpenClaim := { program := "ytnepagdfhoefpaa", sum := "e821f58bdd8fda1c021077aaf85ee22d6ff8952ad6cdc3c38c0f2c887dbd1ad7", func := "loop.example/ringorders/laws.FnExactRingBy", spec := "fnExactRingBy", apart := false, narrowed := true }
def FnExactRingByUptoSaid : Prop := fnExactRingByUptoRow.holds Try.pinned (OpenSpec.upto fnExactRingBySpec)

/-- 'laws.FnExactRingCount', WHERE WHAT IT READS IS OF BULK AT MOST 1048576: true; the input reads as it did. -/
def fnExactRingCountUptoRow : OpenClaim := { program := "ytnepagdfhoefpaa", sum := "e821f58bdd8fda1c021077aaf85ee22d6ff8952ad6cdc3c38c0f2c887dbd1ad7", func := "loop.example/ringorders/laws.FnExactRingCount", spec := "fnExactRingCount", apart := false, narrowed := true }
def FnExactRingCountUptoSaid : Prop := fnExactRingCountUptoRow.holds Try.pinned (OpenSpec.upto fnExactRingCountSpec)

/-- 'laws.FnExactRingDrop', WHERE WHAT IT READS IS OF BULK AT MOST 1048576: true; the input reads as it did. -/
def fnExactRingDropUptoRow : OpenClaim := { program := "ytnepagdfhoefpaa", sum := "e821f58bdd8fda1c021077aaf85ee22d6ff8952ad6cdc3c38c0f2c887dbd1ad7", func := "loop.example/ringorders/laws.FnExactRingDrop", spec := "fnExactRingDrop", apart := false, narrowed := true }
def FnExactRingDropUptoSaid : Prop := fnExactRingDropUptoRow.holds Try.pinned (OpenSpec.upto fnExactRingDropSpec)

end Rows
end Go.Proofs.Ytnepagdfhoefpaa
