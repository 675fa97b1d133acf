/-
  No cell of these rows narrows 'for every input' (looked for: loops, veiled, ifaces, maps, wideKeys, modest, calm, conditions, laid).
  DERIVED. THE GIVEN ROWS OF THIS SEAT. 12 by the template 'for every input the law returns true; each argument reads behind the call as it read before'; 0 by the template 'total and deterministic' (their statements: YtnepagdfhoefpabTotals.lean).
  GIVEN WITH THE SEED: the statements are not yours to turn. If you find one false, say at which input.
  Laid BY PROGRAM, IN A SANDBOX (cutbox-rows.mjs): the forced cells as the released guide's own fill.sh prints them over the translation 63c79ff6c74faae6… (all of the seat's roots in one cut). By AI agents, Wed Nov 11 2026. No macro, syntax, notation, axiom, sorry.
-/
import Derived.Test.YtnepagdfhoefpabChecked
import GoSem.Claim
import GoSem.ClaimJoined
import GoSem.ClaimMapViews
import Derived.JoinedTies
import Derived.KernelRfl
namespace Go.Proofs.Ytnepagdfhoefpab
/- THE CELL 'sum', in the pinned program and in every row, IS THE sha256 OF THE DUMP (.gsa) THAT YtnepagdfhoefpabProg.lean LOADS. Nothing in Lean hashes anything: it is a label: what it is worth is what the hold of that sum in a sandbox is worth. -/
noncomputable def Try.pinned : Pinned := { name := "ytnepagdfhoefpab", sum := "63c79ff6c74faae6a6378007ce3fcd7a2a5abee13b646c9d6efe41d4598e9bfb", checked := Try.checked }
namespace Rows
def none {H : Type} : Left H := { results := [], args := [] }

/-- 'laws.FnExactRingPut': WHATEVER THE INPUT: true; the input reads as it did. -/
def fnExactRingPutSpec : ChangeSpec := { name := "fnExactRingPut", fn := fun _ => fun
  | [d1, d2] => { results := [.lit (.bool true)], args := [d1, d2] }
  | _ => none }
def fnExactRingPutRow : OpenClaim := { program := "ytnepagdfhoefpab", sum := "63c79ff6c74faae6a6378007ce3fcd7a2a5abee13b646c9d6efe41d4598e9bfb", func := "loop.example/ringorders/laws.FnExactRingPut", spec := "fnExactRingPut", plainKeys := false, apart := false }
def FnExactRingPutSaid : Prop := fnExactRingPutRow.holds Try.pinned (OpenSpec.ofChange fnExactRingPutSpec)

/-- ITS FALSE NEIGHBOUR: 'it returns false'. Refute it at one input. -/
def fnExactRingPutWrong : ChangeSpec := { name := "fnExactRingPut", fn := fun _ => fun
  | [d1, d2] => { results := [.lit (.bool false)], args := [d1, d2] }
  | _ => none }
def FnExactRingPutWrongFalsely : Prop := fnExactRingPutRow.holds Try.pinned (OpenSpec.ofChange fnExactRingPutWrong)

/-- 'laws.FnExactThreeIn': WHATEVER THE INPUT: true; the input reads as it did. -/
def fnExactThreeInSpec : ChangeSpec := { name := "fnExactThreeIn", fn := fun _ => fun
  | [d1, d2] => { results := [.lit (.bool true)], args := [d1, d2] }
  | _ => none }
def fnExactThreeInRow : OpenClaim := { program := "ytnepagdfhoefpab", sum := "63c79ff6c74faae6a6378007ce3fcd7a2a5abee13b646c9d6efe41d4598e9bfb", func := "loop.example/ringorders/laws.FnExactThreeIn", spec := "fnExactThreeIn", plainKeys := false, apart := false }
def FnExactThreeInSaid : Prop := fnExactThreeInRow.holds Try.pinned (OpenSpec.ofChange fnExactThreeInSpec)

/-- ITS FALSE NEIGHBOUR: 'it returns false'. Refute it at one input. -/
def fnExactThreeInWrong : ChangeSpec := { name := "fnExactThreeIn", fn := fun _ => fun
  | [d1, d2] => { results := [.lit (.bool false)], args := [d1, d2] }
  | _ => none }
def FnExactThreeInWrongFalsely : Prop := fnExactThreeInRow.holds Try.pinned (OpenSpec.ofChange fnExactThreeInWrong)

/-- 'laws.FnExactThreeAll': WHATEVER THE INPUT: true; the input reads as it did. -/
def fnExactThreeAllSpec : ChangeSpec := { name := "fnExactThreeAll", fn := fun _ => fun
  | [d] => { results := [.lit (.bool true)], args := [d] }
  | _ => none }
def fnExactThreeAllRow : OpenClaim := { program := "ytnepagdfhoefpab", sum := "63c79ff6c74faae6a6378007ce3fcd7a2a5abee13b646c9d6efe41d4598e9bfb", func := "loop.example/ringorders/laws.FnExactThreeAll", spec := "fnExactThreeAll", unfollowed := true, recurses := true, plainKeys := false, apart := false }
def FnExactThreeAllSaid : Prop := fnExactThreeAllRow.holds Try.pinned (OpenSpec.ofChange fnExactThreeAllSpec)

/-- ITS FALSE NEIGHBOUR: 'it returns false'. Refute it at one input. -/
def fnExactThreeAllWrong : ChangeSpec := { name := "fnExactThreeAll", fn := fun _ => fun
  | [d] => { results := [.lit (.bool false)], args := [d] }
  | _ => none }
def FnExactThreeAllWrongFalsely : Prop := fnExactThreeAllRow.holds Try.pinned (OpenSpec.ofChange fnExactThreeAllWrong)

/-- 'laws.FnExactThreeTelling': WHATEVER THE INPUT: true; the input reads as it did. -/
def fnExactThreeTellingSpec : ChangeSpec := { name := "fnExactThreeTelling", fn := fun _ => fun
  | [d1, d2] => { results := [.lit (.bool true)], args := [d1, d2] }
  | _ => none }
def fnExactThreeTellingRow : OpenClaim := { program := "ytnepagdfhoefpab", sum := "63c79ff6c74faae6a6378007ce3fcd7a2a5abee13b646c9d6efe41d4598e9bfb", func := "loop.example/ringorders/laws.FnExactThreeTelling", spec := "fnExactThreeTelling", unfollowed := true, recurses := true, plainKeys := false, apart := false }
def FnExactThreeTellingSaid : Prop := fnExactThreeTellingRow.holds Try.pinned (OpenSpec.ofChange fnExactThreeTellingSpec)

/-- ITS FALSE NEIGHBOUR: 'it returns false'. Refute it at one input. -/
def fnExactThreeTellingWrong : ChangeSpec := { name := "fnExactThreeTelling", fn := fun _ => fun
  | [d1, d2] => { results := [.lit (.bool false)], args := [d1, d2] }
  | _ => none }
def FnExactThreeTellingWrongFalsely : Prop := fnExactThreeTellingRow.holds Try.pinned (OpenSpec.ofChange fnExactThreeTellingWrong)

/-- 'laws.FnExactThreeClose': WHATEVER THE INPUT: true; the input reads as it did. -/
def fnExactThreeCloseSpec : ChangeSpec := { name := "fnExactThreeClose", fn := fun _ => fun
  | [d1, d2] => { results := [.lit (.bool true)], args := [d1, d2] }
  | _ => none }
def fnExactThreeCloseRow : OpenClaim := { program := "ytnepagdfhoefpab", sum := "63c79ff6c74faae6a6378007ce3fcd7a2a5abee13b646c9d6efe41d4598e9bfb", func := "loop.example/ringorders/laws.FnExactThreeClose", spec := "fnExactThreeClose", unfollowed := true, recurses := true, plainKeys := false, apart := false }
def FnExactThreeCloseSaid : Prop := fnExactThreeCloseRow.holds Try.pinned (OpenSpec.ofChange fnExactThreeCloseSpec)

/-- ITS FALSE NEIGHBOUR: 'it returns false'. Refute it at one input. -/
def fnExactThreeCloseWrong : ChangeSpec := { name := "fnExactThreeClose", fn := fun _ => fun
  | [d1, d2] => { results := [.lit (.bool false)], args := [d1, d2] }
  | _ => none }
def FnExactThreeCloseWrongFalsely : Prop := fnExactThreeCloseRow.holds Try.pinned (OpenSpec.ofChange fnExactThreeCloseWrong)

/-- 'laws.FnExactThreeClash': WHATEVER THE INPUT: true; the input reads as it did. -/
def fnExactThreeClashSpec : ChangeSpec := { name := "fnExactThreeClash", fn := fun _ => fun
  | [d1, d2] => { results := [.lit (.bool true)], args := [d1, d2] }
  | _ => none }
def fnExactThreeClashRow : OpenClaim := { program := "ytnepagdfhoefpab", sum := "63c79ff6c74faae6a6378007ce3fcd7a2a5abee13b646c9d6efe41d4598e9bfb", func := "loop.example/ringorders/laws.FnExactThreeClash", spec := "fnExactThreeClash", unfollowed := true, recurses := true, plainKeys := false, apart := false }
def FnExactThreeClashSaid : Prop := fnExactThreeClashRow.holds Try.pinned (OpenSpec.ofChange fnExactThreeClashSpec)

/-- ITS FALSE NEIGHBOUR: 'it returns false'. Refute it at one input. -/
def fnExactThreeClashWrong : ChangeSpec := { name := "fnExactThreeClash", fn := fun _ => fun
  | [d1, d2] => { results := [.lit (.bool false)], args := [d1, d2] }
  | _ => none }
def FnExactThreeClashWrongFalsely : Prop := fnExactThreeClashRow.holds Try.pinned (OpenSpec.ofChange fnExactThreeClashWrong)

/-- 'laws.FnExactThreeRings': WHATEVER THE INPUT: true; the input reads as it did. -/
def fnExactThreeRingsSpec : ChangeSpec := { name := "fnExactThreeRings", fn := fun _ => fun
  | [d1, d2] => { results := [.lit (.bool true)], args := [d1, d2] }
  | _ => none }
def fnExactThreeRingsRow : OpenClaim := { program := "ytnepagdfhoefpab", sum := "63c79ff6c74faae6a6378007ce3fcd7a2a5abee13b646c9d6efe41d4598e9bfb", func := "loop.example/ringorders/laws.FnExactThreeRings", spec := "fnExactThreeRings", unfollowed := true, recurses := true, plainKeys := false, apart := false }
def FnExactThreeRingsSaid : Prop := fnExactThreeRingsRow.holds Try.pinned (OpenSpec.ofChange fnExactThreeRingsSpec)

/-- ITS FALSE NEIGHBOUR: 'it returns false'. Refute it at one input. -/
def fnExactThreeRingsWrong : ChangeSpec := { name := "fnExactThreeRings", fn := fun _ => fun
  | [d1, d2] => { results := [.lit (.bool false)], args := [d1, d2] }
  | _ => none }
def FnExactThreeRingsWrongFalsely : Prop := fnExactThreeRingsRow.holds Try.pinned (OpenSpec.ofChange fnExactThreeRingsWrong)

/-- 'laws.FnExactThreeFirst': WHATEVER THE INPUT: true; the input reads as it did. -/
def fnExactThreeFirstSpec : ChangeSpec := { name := "fnExactThreeFirst", fn := fun _ => fun
  | [d1, d2] => { results := [.lit (.bool true)], args := [d1, d2] }
  | _ => none }
def fnExactThreeFirstRow : OpenClaim := { program := "ytnepagdfhoefpab", sum := "63c79ff6c74faae6a6378007ce3fcd7a2a5abee13b646c9d6efe41d4598e9bfb", func := "loop.example/ringorders/laws.FnExactThreeFirst", spec := "fnExactThreeFirst", unfollowed := true, recurses := true, plainKeys := false, apart := false }
def FnExactThreeFirstSaid : Prop := fnExactThreeFirstRow.holds Try.pinned (OpenSpec.ofChange fnExactThreeFirstSpec)

/-- ITS FALSE NEIGHBOUR: 'it returns false'. Refute it at one input. -/
def fnExactThreeFirstWrong : ChangeSpec := { name := "fnExactThreeFirst", fn := fun _ => fun
  | [d1, d2] => { results := [.lit (.bool false)], args := [d1, d2] }
  | _ => none }
def FnExactThreeFirstWrongFalsely : Prop := fnExactThreeFirstRow.holds Try.pinned (OpenSpec.ofChange fnExactThreeFirstWrong)

/-- 'laws.FnExactThreeSure': WHATEVER THE INPUT: true; the input reads as it did. -/
def fnExactThreeSureSpec : ChangeSpec := { name := "fnExactThreeSure", fn := fun _ => fun
  | [d1, d2] => { results := [.lit (.bool true)], args := [d1, d2] }
  | _ => none }
def fnExactThreeSureRow : OpenClaim := { program := "ytnepagdfhoefpab", sum := "63c79ff6c74faae6a6378007ce3fcd7a2a5abee13b646c9d6efe41d4598e9bfb", func := "loop.example/ringorders/laws.FnExactThreeSure", spec := "fnExactThreeSure", unfollowed := true, recurses := true, plainKeys := false, apart := false }
def FnExactThreeSureSaid : Prop := fnExactThreeSureRow.holds Try.pinned (OpenSpec.ofChange fnExactThreeSureSpec)

/-- ITS FALSE NEIGHBOUR: 'it returns false'. Refute it at one input. -/
def fnExactThreeSureWrong : ChangeSpec := { name := "fnExactThreeSure", fn := fun _ => fun
  | [d1, d2] => { results := [.lit (.bool false)], args := [d1, d2] }
  | _ => none }
def FnExactThreeSureWrongFalsely : Prop := fnExactThreeSureRow.holds Try.pinned (OpenSpec.ofChange fnExactThreeSureWrong)

/-- 'laws.FnExactThreeMost': WHATEVER THE INPUT: true; the input reads as it did. -/
def fnExactThreeMostSpec : ChangeSpec := { name := "fnExactThreeMost", fn := fun _ => fun
  | [d1, d2] => { results := [.lit (.bool true)], args := [d1, d2] }
  | _ => none }
def fnExactThreeMostRow : OpenClaim := { program := "ytnepagdfhoefpab", sum := "63c79ff6c74faae6a6378007ce3fcd7a2a5abee13b646c9d6efe41d4598e9bfb", func := "loop.example/ringorders/laws.FnExactThreeMost", spec := "fnExactThreeMost", unfollowed := true, recurses := true, plainKeys := false, apart := false }
def FnExactThreeMostSaid : Prop := fnExactThreeMostRow.holds Try.pinned (OpenSpec.ofChange fnExactThreeMostSpec)

/-- ITS FALSE NEIGHBOUR: 'it returns false'. Refute it at one input. -/
def fnExactThreeMostWrong : ChangeSpec := { name := "fnExactThreeMost", fn := fun _ => fun
  | [d1, d2] => { results := [.lit (.bool false)], args := [d1, d2] }
  | _ => none }
def FnExactThreeMostWrongFalsely : Prop := fnExactThreeMostRow.holds Try.pinned (OpenSpec.ofChange fnExactThreeMostWrong)

/-- 'laws.FnExactThreeMostRing': WHATEVER THE INPUT: true; the input reads as it did. -/
def fnExactThreeMostRingSpec : ChangeSpec := { name := "fnExactThreeMostRing", fn := fun _ => fun
  | [d1, d2] => { results := [.lit (.bool true)], args := [d1, d2] }
  | _ => none }
def fnExactThreeMostRingRow : OpenClaim := { program := "ytnepagdfhoefpab", sum := "63c79ff6c74faae6a6378007ce3fcd7a2a5abee13b646c9d6efe41d4598e9bfb", func := "loop.example/ringorders/laws.FnExactThreeMostRing", spec := "fnExactThreeMostRing", unfollowed := true, recurses := true, plainKeys := false, apart := false }
def FnExactThreeMostRingSaid : Prop := fnExactThreeMostRingRow.holds Try.pinned (OpenSpec.ofChange fnExactThreeMostRingSpec)

/-- ITS FALSE NEIGHBOUR: 'it returns false'. Refute it at one input. -/
def fnExactThreeMostRingWrong : ChangeSpec := { name := "fnExactThreeMostRing", fn := fun _ => fun
  | [d1, d2] => { results := [.lit (.bool false)], args := [d1, d2] }
  | _ => none }
def FnExactThreeMostRingWrongFalsely : Prop := fnExactThreeMostRingRow.holds Try.pinned (OpenSpec.ofChange fnExactThreeMostRingWrong)

/-- 'laws.FnExactThreeBack': WHATEVER THE INPUT: true; the input reads as it did. -/
def fnExactThreeBackSpec : ChangeSpec := { name := "fnExactThreeBack", fn := fun _ => fun
  | [d1, d2] => { results := [.lit (.bool true)], args := [d1, d2] }
  | _ => none }
def fnExactThreeBackRow : OpenClaim := { program := "ytnepagdfhoefpab", sum := "63c79ff6c74faae6a6378007ce3fcd7a2a5abee13b646c9d6efe41d4598e9bfb", func := "loop.example/ringorders/laws.FnExactThreeBack", spec := "fnExactThreeBack", unfollowed := true, recurses := true, plainKeys := false, apart := false }
def FnExactThreeBackSaid : Prop := fnExactThreeBackRow.holds Try.pinned (OpenSpec.ofChange fnExactThreeBackSpec)

/-- ITS FALSE NEIGHBOUR: 'it returns false'. Refute it at one input. -/
def fnExactThreeBackWrong : ChangeSpec := { name := "fnExactThreeBack", fn := fun _ => fun
  | [d1, d2] => { results := [.lit (.bool false)], args := [d1, d2] }
  | _ => none }
def FnExactThreeBackWrongFalsely : Prop := fnExactThreeBackRow.holds Try.pinned (OpenSpec.ofChange fnExactThreeBackWrong)

/- THE SECOND FORM. 'bulk': how many values and letters a reading holds, each counted each time it is reached (what is shared counts as often as it is met; a slice's spare places count too). A statement '..UptoSaid' is the law's where the arguments, and the package variables that the reading takes, are together of bulk at most 1048576: NARROWER than '..Said'. Prove '..Said' where nothing that the law and all that it calls make is longer than what came in: it says more and counts as full. Else prove '..UptoSaid'. A law counts once. -/
mutual
def uptoBulk {H : Type} : DataW H → Nat
  | .lit (.string bytes) => bytes.length + 1
  | .lit _ => 1
  | .nil => 1
  | .ptr d => uptoBulk d + 1
  | .slice elems spare => uptoBulkAll elems + uptoBulkAll spare + 1
  | .agg parts => uptoBulkAll parts + 1
  | .iface _ d => uptoBulk d + 1
  | .map entries => uptoBulkEntries entries + 1
  | .held _ => 1
def uptoBulkAll {H : Type} : List (DataW H) → Nat
  | [] => 0
  | d :: r => uptoBulk d + uptoBulkAll r
def uptoBulkEntries {H : Type} : List (Lit × DataW H) → Nat
  | [] => 0
  | x :: r => uptoBulkEntry x + uptoBulkEntries r
def uptoBulkEntry {H : Type} : Lit × DataW H → Nat
  | (.string bytes, d) => bytes.length + uptoBulk d + 1
  | (_, d) => uptoBulk d + 1
 end
def uptoSmall : (H : Type) → List (DataW H) → Bool := fun _ ds => decide (uptoBulkAll ds ≤ 1048576)
def OpenSpec.upto (s : _root_.Go.ChangeSpec) : _root_.Go.OpenSpec := { _root_.Go.OpenSpec.ofChange s with cond := some uptoSmall }

/-- 'laws.FnExactRingPut', WHERE WHAT IT READS IS OF BULK AT MOST 1048576: true; the input reads as it did. -/
def fnExactRingPutUptoRow : OpenClaim := { program := "ytnepagdfhoefpab", sum := "63c79ff6c74faae6a6378007ce3fcd7a2a5abee13b646c9d6efe41d4598e9bfb", func := "loop.example/ringorders/laws.FnExactRingPut", spec := "fnExactRingPut", plainKeys := false, apart := false, narrowed := true }
def FnExactRingPutUptoSaid : Prop := fnExactRingPutUptoRow.holds Try.pinned (OpenSpec.upto fnExactRingPutSpec)

/-- 'laws.FnExactThreeIn', WHERE WHAT IT READS IS OF BULK AT MOST 1048576: true; the input reads as it did. -/
def fnExactThreeInUptoRow : OpenClaim := { program := "ytnepagdfhoefpab", sum := "63c79ff6c74faae6a6378007ce3fcd7a2a5abee13b646c9d6efe41d4598e9bfb", func := "loop.example/ringorders/laws.FnExactThreeIn", spec := "fnExactThreeIn", plainKeys := false, apart := false, narrowed := true }
def FnExactThreeInUptoSaid : Prop := fnExactThreeInUptoRow.holds Try.pinned (OpenSpec.upto fnExactThreeInSpec)

/-- 'laws.FnExactThreeAll', WHERE WHAT IT READS IS OF BULK AT MOST 1048576: true; the input reads as it did. -/
def fnExactThreeAllUptoRow : OpenClaim := { program := "ytnepagdfhoefpab", sum := "63c79ff6c74faae6a6378007ce3fcd7a2a5abee13b646c9d6efe41d4598e9bfb", func := "loop.example/ringorders/laws.FnExactThreeAll", spec := "fnExactThreeAll", unfollowed := true, recurses := true, plainKeys := false, apart := false, narrowed := true }
def FnExactThreeAllUptoSaid : Prop := fnExactThreeAllUptoRow.holds Try.pinned (OpenSpec.upto fnExactThreeAllSpec)

/-- 'laws.FnExactThreeTelling', WHERE WHAT IT READS IS OF BULK AT MOST 1048576: true; the input reads as it did. -/
def fnExactThreeTellingUptoRow : OpenClaim := { program := "ytnepagdfhoefpab", sum := "63c79ff6c74faae6a6378007ce3fcd7a2a5abee13b646c9d6efe41d4598e9bfb", func := "loop.example/ringorders/laws.FnExactThreeTelling", spec := "fnExactThreeTelling", unfollowed := true, recurses := true, plainKeys := false, apart := false, narrowed := true }
def FnExactThreeTellingUptoSaid : Prop := fnExactThreeTellingUptoRow.holds Try.pinned (OpenSpec.upto fnExactThreeTellingSpec)

/-- 'laws.FnExactThreeClose', WHERE WHAT IT READS IS OF BULK AT MOST 1048576: true; the input reads as it did. -/
def fnExactThreeCloseUptoRow : OpenClaim := { program := "ytnepagdfhoefpab", sum := "63c79ff6c74faae6a6378007ce3fcd7a2a5abee13b646c9d6efe41d4598e9bfb", func := "loop.example/ringorders/laws.FnExactThreeClose", spec := "fnExactThreeClose", unfollowed := true, recurses := true, plainKeys := false, apart := false, narrowed := true }
def FnExactThreeCloseUptoSaid : Prop := fnExactThreeCloseUptoRow.holds Try.pinned (OpenSpec.upto fnExactThreeCloseSpec)

/-- 'laws.FnExactThreeClash', WHERE WHAT IT READS IS OF BULK AT MOST 1048576: true; the input reads as it did. -/
def fnExactThreeClashUptoRow : OpenClaim := { program := "ytnepagdfhoefpab", sum := "63c79ff6c74faae6a6378007ce3fcd7a2a5abee13b646c9d6efe41d4598e9bfb", func := "loop.example/ringorders/laws.FnExactThreeClash", spec := "fnExactThreeClash", unfollowed := true, recurses := true, plainKeys := false, apart := false, narrowed := true }
def FnExactThreeClashUptoSaid : Prop := fnExactThreeClashUptoRow.holds Try.pinned (OpenSpec.upto fnExactThreeClashSpec)

/-- 'laws.FnExactThreeRings', WHERE WHAT IT READS IS OF BULK AT MOST 1048576: true; the input reads as it did. -/
def fnExactThreeRingsUptoRow : OpenClaim := { program := "ytnepagdfhoefpab", sum := "63c79ff6c74faae6a6378007ce3fcd7a2a5abee13b646c9d6efe41d4598e9bfb", func := "loop.example/ringorders/laws.FnExactThreeRings", spec := "fnExactThreeRings", unfollowed := true, recurses := true, plainKeys := false, apart := false, narrowed := true }
def FnExactThreeRingsUptoSaid : Prop := fnExactThreeRingsUptoRow.holds Try.pinned (OpenSpec.upto fnExactThreeRingsSpec)

/-- 'laws.FnExactThreeFirst', WHERE WHAT IT READS IS OF BULK AT MOST 1048576: true; the input reads as it did. -/
def fnExactThreeFirstUptoRow : OpenClaim := { program := "ytnepagdfhoefpab", sum := "63c79ff6c74faae6a6378007ce3fcd7a2a5abee13b646c9d6efe41d4598e9bfb", func := "loop.example/ringorders/laws.FnExactThreeFirst", spec := "fnExactThreeFirst", unfollowed := true, recurses := true, plainKeys := false, apart := false, narrowed := true }
def FnExactThreeFirstUptoSaid : Prop := fnExactThreeFirstUptoRow.holds Try.pinned (OpenSpec.upto fnExactThreeFirstSpec)

/-- 'laws.FnExactThreeSure', WHERE WHAT IT READS IS OF BULK AT MOST 1048576: true; the input reads as it did. -/
def fnExactThreeSureUptoRow : OpenClaim := { program := "ytnepagdfhoefpab", sum := "63c79ff6c74faae6a6378007ce3fcd7a2a5abee13b646c9d6efe41d4598e9bfb", func := "loop.example/ringorders/laws.FnExactThreeSure", spec := "fnExactThreeSure", unfollowed := true, recurses := true, plainKeys := false, apart := false, narrowed := true }
def FnExactThreeSureUptoSaid : Prop := fnExactThreeSureUptoRow.holds Try.pinned (OpenSpec.upto fnExactThreeSureSpec)

/-- 'laws.FnExactThreeMost', WHERE WHAT IT READS IS OF BULK AT MOST 1048576: true; the input reads as it did. -/
def fnExactThreeMostUptoRow : OpenClaim := { program := "ytnepagdfhoefpab", sum := "63c79ff6c74faae6a6378007ce3fcd7a2a5abee13b646c9d6efe41d4598e9bfb", func := "loop.example/ringorders/laws.FnExactThreeMost", spec := "fnExactThreeMost", unfollowed := true, recurses := true, plainKeys := false, apart := false, narrowed := true }
def FnExactThreeMostUptoSaid : Prop := fnExactThreeMostUptoRow.holds Try.pinned (OpenSpec.upto fnExactThreeMostSpec)

/-- 'laws.FnExactThreeMostRing', WHERE WHAT IT READS IS OF BULK AT MOST 1048576: true; the input reads as it did. -/
def fnExactThreeMostRingUptoRow : OpenClaim := { program := "ytnepagdfhoefpab", sum := "63c79ff6c74faae6a6378007ce3fcd7a2a5abee13b646c9d6efe41d4598e9bfb", func := "loop.example/ringorders/laws.FnExactThreeMostRing", spec := "fnExactThreeMostRing", unfollowed := true, recurses := true, plainKeys := false, apart := false, narrowed := true }
def FnExactThreeMostRingUptoSaid : Prop := fnExactThreeMostRingUptoRow.holds Try.pinned (OpenSpec.upto fnExactThreeMostRingSpec)

/-- 'laws.FnExactThreeBack', WHERE WHAT IT READS IS OF BULK AT MOST 1048576: true; the input reads as it did. -/
def fnExactThreeBackUptoRow : OpenClaim := { program := "ytnepagdfhoefpab", sum := "63c79ff6c74faae6a6378007ce3fcd7a2a5abee13b646c9d6efe41d4598e9bfb", func := "loop.example/ringorders/laws.FnExactThreeBack", spec := "fnExactThreeBack", unfollowed := true, recurses := true, plainKeys := false, apart := false, narrowed := true }
def FnExactThreeBackUptoSaid : Prop := fnExactThreeBackUptoRow.holds Try.pinned (OpenSpec.upto fnExactThreeBackSpec)

end Rows
end Go.Proofs.Ytnepagdfhoefpab
