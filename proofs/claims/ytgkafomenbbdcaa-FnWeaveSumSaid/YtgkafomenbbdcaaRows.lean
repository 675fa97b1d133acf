/-
  No cell of these rows narrows 'for every input' (looked for: loops, veiled, ifaces, maps, wideKeys, modest, calm, conditions, laid).
  DERIVED. THE GIVEN ROWS OF THIS SEAT. 15 by the template 'for every input the law returns true; each argument reads behind the call as it read before'; 0 by the template 'total and deterministic' (their statements: YtgkafomenbbdcaaTotals.lean).
  GIVEN WITH THE SEED: the statements are not yours to turn. If you find one false, say at which input.
  Laid BY PROGRAM, IN A SANDBOX (cutbox-rows.mjs): the forced cells as the released guide's own fill.sh prints them over the translation aa53ae31cbca94e4… (all of the seat's roots in one cut). By AI agents, Wed Nov 11 2026. No macro, syntax, notation, axiom, sorry.
-/
import Derived.Test.YtgkafomenbbdcaaChecked
import GoSem.Claim
import GoSem.ClaimJoined
import GoSem.ClaimMapViews
import Derived.JoinedTies
import Derived.KernelRfl
namespace Go.Proofs.Ytgkafomenbbdcaa
/- THE CELL 'sum', in the pinned program and in every row, IS THE sha256 OF THE DUMP (.gsa) THAT YtgkafomenbbdcaaProg.lean LOADS. Nothing in Lean hashes anything: it is a label: what it is worth is what the hold of that sum in a sandbox is worth. -/
noncomputable def Try.pinned : Pinned := { name := "ytgkafomenbbdcaa", sum := "aa53ae31cbca94e4bad044d4cb5a8c31ea35e718e1157ad85aa860fbe4f46663", checked := Try.checked }
namespace Rows
def none {H : Type} : Left H := { results := [], args := [] }

/-- 'laws.FnThreeAll': WHATEVER THE INPUT: true; the input reads as it did. -/
def fnThreeAllSpec : ChangeSpec := { name := "fnThreeAll", fn := fun _ => fun
  | [d] => { results := [.lit (.bool true)], args := [d] }
  | _ => none }
def fnThreeAllRow : OpenClaim := { program := "ytgkafomenbbdcaa", sum := "aa53ae31cbca94e4bad044d4cb5a8c31ea35e718e1157ad85aa860fbe4f46663", func := "loop.example/ringorders/laws.FnThreeAll", spec := "fnThreeAll", unfollowed := true, recurses := true, plainKeys := false, apart := false }
def FnThreeAllSaid : Prop := fnThreeAllRow.holds Try.pinned (OpenSpec.ofChange fnThreeAllSpec)

/-- ITS FALSE NEIGHBOUR: 'it returns false'. Refute it at one input. -/
def fnThreeAllWrong : ChangeSpec := { name := "fnThreeAll", fn := fun _ => fun
  | [d] => { results := [.lit (.bool false)], args := [d] }
  | _ => none }
def FnThreeAllWrongFalsely : Prop := fnThreeAllRow.holds Try.pinned (OpenSpec.ofChange fnThreeAllWrong)

/-- 'laws.FnTelling': WHATEVER THE INPUT: true; the input reads as it did. -/
def fnTellingSpec : ChangeSpec := { name := "fnTelling", fn := fun _ => fun
  | [d] => { results := [.lit (.bool true)], args := [d] }
  | _ => none }
def fnTellingRow : OpenClaim := { program := "ytgkafomenbbdcaa", sum := "aa53ae31cbca94e4bad044d4cb5a8c31ea35e718e1157ad85aa860fbe4f46663", func := "loop.example/ringorders/laws.FnTelling", spec := "fnTelling", unfollowed := true, recurses := true, plainKeys := false, apart := false }
def FnTellingSaid : Prop := fnTellingRow.holds Try.pinned (OpenSpec.ofChange fnTellingSpec)

/-- ITS FALSE NEIGHBOUR: 'it returns false'. Refute it at one input. -/
def fnTellingWrong : ChangeSpec := { name := "fnTelling", fn := fun _ => fun
  | [d] => { results := [.lit (.bool false)], args := [d] }
  | _ => none }
def FnTellingWrongFalsely : Prop := fnTellingRow.holds Try.pinned (OpenSpec.ofChange fnTellingWrong)

/-- 'laws.FnClose': WHATEVER THE INPUT: true; the input reads as it did. -/
def fnCloseSpec : ChangeSpec := { name := "fnClose", fn := fun _ => fun
  | [d] => { results := [.lit (.bool true)], args := [d] }
  | _ => none }
def fnCloseRow : OpenClaim := { program := "ytgkafomenbbdcaa", sum := "aa53ae31cbca94e4bad044d4cb5a8c31ea35e718e1157ad85aa860fbe4f46663", func := "loop.example/ringorders/laws.FnClose", spec := "fnClose", unfollowed := true, recurses := true, plainKeys := false, apart := false }
def FnCloseSaid : Prop := fnCloseRow.holds Try.pinned (OpenSpec.ofChange fnCloseSpec)

/-- ITS FALSE NEIGHBOUR: 'it returns false'. Refute it at one input. -/
def fnCloseWrong : ChangeSpec := { name := "fnClose", fn := fun _ => fun
  | [d] => { results := [.lit (.bool false)], args := [d] }
  | _ => none }
def FnCloseWrongFalsely : Prop := fnCloseRow.holds Try.pinned (OpenSpec.ofChange fnCloseWrong)

/-- 'laws.FnClash': WHATEVER THE INPUT: true; the input reads as it did. -/
def fnClashSpec : ChangeSpec := { name := "fnClash", fn := fun _ => fun
  | [d] => { results := [.lit (.bool true)], args := [d] }
  | _ => none }
def fnClashRow : OpenClaim := { program := "ytgkafomenbbdcaa", sum := "aa53ae31cbca94e4bad044d4cb5a8c31ea35e718e1157ad85aa860fbe4f46663", func := "loop.example/ringorders/laws.FnClash", spec := "fnClash", unfollowed := true, recurses := true, plainKeys := false, apart := false }
def FnClashSaid : Prop := fnClashRow.holds Try.pinned (OpenSpec.ofChange fnClashSpec)

/-- ITS FALSE NEIGHBOUR: 'it returns false'. Refute it at one input. -/
def fnClashWrong : ChangeSpec := { name := "fnClash", fn := fun _ => fun
  | [d] => { results := [.lit (.bool false)], args := [d] }
  | _ => none }
def FnClashWrongFalsely : Prop := fnClashRow.holds Try.pinned (OpenSpec.ofChange fnClashWrong)

/-- 'laws.FnRings': WHATEVER THE INPUT: true; the input reads as it did. -/
def fnRingsSpec : ChangeSpec := { name := "fnRings", fn := fun _ => fun
  | [d] => { results := [.lit (.bool true)], args := [d] }
  | _ => none }
def fnRingsRow : OpenClaim := { program := "ytgkafomenbbdcaa", sum := "aa53ae31cbca94e4bad044d4cb5a8c31ea35e718e1157ad85aa860fbe4f46663", func := "loop.example/ringorders/laws.FnRings", spec := "fnRings", unfollowed := true, recurses := true, plainKeys := false, apart := false }
def FnRingsSaid : Prop := fnRingsRow.holds Try.pinned (OpenSpec.ofChange fnRingsSpec)

/-- ITS FALSE NEIGHBOUR: 'it returns false'. Refute it at one input. -/
def fnRingsWrong : ChangeSpec := { name := "fnRings", fn := fun _ => fun
  | [d] => { results := [.lit (.bool false)], args := [d] }
  | _ => none }
def FnRingsWrongFalsely : Prop := fnRingsRow.holds Try.pinned (OpenSpec.ofChange fnRingsWrong)

/-- 'laws.FnThreeFirst': WHATEVER THE INPUT: true; the input reads as it did. -/
def fnThreeFirstSpec : ChangeSpec := { name := "fnThreeFirst", fn := fun _ => fun
  | [d] => { results := [.lit (.bool true)], args := [d] }
  | _ => none }
def fnThreeFirstRow : OpenClaim := { program := "ytgkafomenbbdcaa", sum := "aa53ae31cbca94e4bad044d4cb5a8c31ea35e718e1157ad85aa860fbe4f46663", func := "loop.example/ringorders/laws.FnThreeFirst", spec := "fnThreeFirst", unfollowed := true, recurses := true, plainKeys := false, apart := false }
def FnThreeFirstSaid : Prop := fnThreeFirstRow.holds Try.pinned (OpenSpec.ofChange fnThreeFirstSpec)

/-- ITS FALSE NEIGHBOUR: 'it returns false'. Refute it at one input. -/
def fnThreeFirstWrong : ChangeSpec := { name := "fnThreeFirst", fn := fun _ => fun
  | [d] => { results := [.lit (.bool false)], args := [d] }
  | _ => none }
def FnThreeFirstWrongFalsely : Prop := fnThreeFirstRow.holds Try.pinned (OpenSpec.ofChange fnThreeFirstWrong)

/-- 'laws.FnSure': WHATEVER THE INPUT: true; the input reads as it did. -/
def fnSureSpec : ChangeSpec := { name := "fnSure", fn := fun _ => fun
  | [d] => { results := [.lit (.bool true)], args := [d] }
  | _ => none }
def fnSureRow : OpenClaim := { program := "ytgkafomenbbdcaa", sum := "aa53ae31cbca94e4bad044d4cb5a8c31ea35e718e1157ad85aa860fbe4f46663", func := "loop.example/ringorders/laws.FnSure", spec := "fnSure", unfollowed := true, recurses := true, plainKeys := false, apart := false }
def FnSureSaid : Prop := fnSureRow.holds Try.pinned (OpenSpec.ofChange fnSureSpec)

/-- ITS FALSE NEIGHBOUR: 'it returns false'. Refute it at one input. -/
def fnSureWrong : ChangeSpec := { name := "fnSure", fn := fun _ => fun
  | [d] => { results := [.lit (.bool false)], args := [d] }
  | _ => none }
def FnSureWrongFalsely : Prop := fnSureRow.holds Try.pinned (OpenSpec.ofChange fnSureWrong)

/-- 'laws.FnThreeMost': WHATEVER THE INPUT: true; the input reads as it did. -/
def fnThreeMostSpec : ChangeSpec := { name := "fnThreeMost", fn := fun _ => fun
  | [d] => { results := [.lit (.bool true)], args := [d] }
  | _ => none }
def fnThreeMostRow : OpenClaim := { program := "ytgkafomenbbdcaa", sum := "aa53ae31cbca94e4bad044d4cb5a8c31ea35e718e1157ad85aa860fbe4f46663", func := "loop.example/ringorders/laws.FnThreeMost", spec := "fnThreeMost", unfollowed := true, recurses := true, plainKeys := false, apart := false }
def FnThreeMostSaid : Prop := fnThreeMostRow.holds Try.pinned (OpenSpec.ofChange fnThreeMostSpec)

/-- ITS FALSE NEIGHBOUR: 'it returns false'. Refute it at one input. -/
def fnThreeMostWrong : ChangeSpec := { name := "fnThreeMost", fn := fun _ => fun
  | [d] => { results := [.lit (.bool false)], args := [d] }
  | _ => none }
def FnThreeMostWrongFalsely : Prop := fnThreeMostRow.holds Try.pinned (OpenSpec.ofChange fnThreeMostWrong)

/-- 'laws.FnMostRing': WHATEVER THE INPUT: true; the input reads as it did. -/
def fnMostRingSpec : ChangeSpec := { name := "fnMostRing", fn := fun _ => fun
  | [d] => { results := [.lit (.bool true)], args := [d] }
  | _ => none }
def fnMostRingRow : OpenClaim := { program := "ytgkafomenbbdcaa", sum := "aa53ae31cbca94e4bad044d4cb5a8c31ea35e718e1157ad85aa860fbe4f46663", func := "loop.example/ringorders/laws.FnMostRing", spec := "fnMostRing", unfollowed := true, recurses := true, plainKeys := false, apart := false }
def FnMostRingSaid : Prop := fnMostRingRow.holds Try.pinned (OpenSpec.ofChange fnMostRingSpec)

/-- ITS FALSE NEIGHBOUR: 'it returns false'. Refute it at one input. -/
def fnMostRingWrong : ChangeSpec := { name := "fnMostRing", fn := fun _ => fun
  | [d] => { results := [.lit (.bool false)], args := [d] }
  | _ => none }
def FnMostRingWrongFalsely : Prop := fnMostRingRow.holds Try.pinned (OpenSpec.ofChange fnMostRingWrong)

/-- 'laws.FnThreeBack': WHATEVER THE INPUT: true; the input reads as it did. -/
def fnThreeBackSpec : ChangeSpec := { name := "fnThreeBack", fn := fun _ => fun
  | [d] => { results := [.lit (.bool true)], args := [d] }
  | _ => none }
def fnThreeBackRow : OpenClaim := { program := "ytgkafomenbbdcaa", sum := "aa53ae31cbca94e4bad044d4cb5a8c31ea35e718e1157ad85aa860fbe4f46663", func := "loop.example/ringorders/laws.FnThreeBack", spec := "fnThreeBack", unfollowed := true, recurses := true, plainKeys := false, apart := false }
def FnThreeBackSaid : Prop := fnThreeBackRow.holds Try.pinned (OpenSpec.ofChange fnThreeBackSpec)

/-- ITS FALSE NEIGHBOUR: 'it returns false'. Refute it at one input. -/
def fnThreeBackWrong : ChangeSpec := { name := "fnThreeBack", fn := fun _ => fun
  | [d] => { results := [.lit (.bool false)], args := [d] }
  | _ => none }
def FnThreeBackWrongFalsely : Prop := fnThreeBackRow.holds Try.pinned (OpenSpec.ofChange fnThreeBackWrong)

/-- 'laws.FnMostBack': WHATEVER THE INPUT: true; the input reads as it did. -/
def fnMostBackSpec : ChangeSpec := { name := "fnMostBack", fn := fun _ => fun
  | [d] => { results := [.lit (.bool true)], args := [d] }
  | _ => none }
def fnMostBackRow : OpenClaim := { program := "ytgkafomenbbdcaa", sum := "aa53ae31cbca94e4bad044d4cb5a8c31ea35e718e1157ad85aa860fbe4f46663", func := "loop.example/ringorders/laws.FnMostBack", spec := "fnMostBack", unfollowed := true, recurses := true, plainKeys := false, apart := false }
def FnMostBackSaid : Prop := fnMostBackRow.holds Try.pinned (OpenSpec.ofChange fnMostBackSpec)

/-- ITS FALSE NEIGHBOUR: 'it returns false'. Refute it at one input. -/
def fnMostBackWrong : ChangeSpec := { name := "fnMostBack", fn := fun _ => fun
  | [d] => { results := [.lit (.bool false)], args := [d] }
  | _ => none }
def FnMostBackWrongFalsely : Prop := fnMostBackRow.holds Try.pinned (OpenSpec.ofChange fnMostBackWrong)

/-- 'laws.FnWeaveSum': WHATEVER THE INPUT: true; the input reads as it did. -/
def fnWeaveSumSpec : ChangeSpec := { name := "fnWeaveSum", fn := fun _ => fun
  | [d] => { results := [.lit (.bool true)], args := [d] }
  | _ => none }
def fnWeaveSumRow : OpenClaim := { program := "ytgkafomenbbdcaa", sum := "aa53ae31cbca94e4bad044d4cb5a8c31ea35e718e1157ad85aa860fbe4f46663", func := "loop.example/ringorders/laws.FnWeaveSum", spec := "fnWeaveSum", unfollowed := true, recurses := true, plainKeys := false, apart := false }
def FnWeaveSumSaid : Prop := fnWeaveSumRow.holds Try.pinned (OpenSpec.ofChange fnWeaveSumSpec)

/-- ITS FALSE NEIGHBOUR: 'it returns false'. Refute it at one input. -/
def fnWeaveSumWrong : ChangeSpec := { name := "fnWeaveSum", fn := fun _ => fun
  | [d] => { results := [.lit (.bool false)], args := [d] }
  | _ => none }
def FnWeaveSumWrongFalsely : Prop := fnWeaveSumRow.holds Try.pinned (OpenSpec.ofChange fnWeaveSumWrong)

/-- 'laws.FnExactWeaveIn': WHATEVER THE INPUT: true; the input reads as it did. -/
def fnExactWeaveInSpec : ChangeSpec := { name := "fnExactWeaveIn", fn := fun _ => fun
  | [d1, d2] => { results := [.lit (.bool true)], args := [d1, d2] }
  | _ => none }
def fnExactWeaveInRow : OpenClaim := { program := "ytgkafomenbbdcaa", sum := "aa53ae31cbca94e4bad044d4cb5a8c31ea35e718e1157ad85aa860fbe4f46663", func := "loop.example/ringorders/laws.FnExactWeaveIn", spec := "fnExactWeaveIn", unfollowed := true, recurses := true, plainKeys := false, apart := false }
def FnExactWeaveInSaid : Prop := fnExactWeaveInRow.holds Try.pinned (OpenSpec.ofChange fnExactWeaveInSpec)

/-- ITS FALSE NEIGHBOUR: 'it returns false'. Refute it at one input. -/
def fnExactWeaveInWrong : ChangeSpec := { name := "fnExactWeaveIn", fn := fun _ => fun
  | [d1, d2] => { results := [.lit (.bool false)], args := [d1, d2] }
  | _ => none }
def FnExactWeaveInWrongFalsely : Prop := fnExactWeaveInRow.holds Try.pinned (OpenSpec.ofChange fnExactWeaveInWrong)

/-- 'laws.FnExactWeaveSum': WHATEVER THE INPUT: true; the input reads as it did. -/
def fnExactWeaveSumSpec : ChangeSpec := { name := "fnExactWeaveSum", fn := fun _ => fun
  | [d1, d2, d3] => { results := [.lit (.bool true)], args := [d1, d2, d3] }
  | _ => none }
def fnExactWeaveSumRow : OpenClaim := { program := "ytgkafomenbbdcaa", sum := "aa53ae31cbca94e4bad044d4cb5a8c31ea35e718e1157ad85aa860fbe4f46663", func := "loop.example/ringorders/laws.FnExactWeaveSum", spec := "fnExactWeaveSum", unfollowed := true, recurses := true, plainKeys := false, apart := false }
def FnExactWeaveSumSaid : Prop := fnExactWeaveSumRow.holds Try.pinned (OpenSpec.ofChange fnExactWeaveSumSpec)

/-- ITS FALSE NEIGHBOUR: 'it returns false'. Refute it at one input. -/
def fnExactWeaveSumWrong : ChangeSpec := { name := "fnExactWeaveSum", fn := fun _ => fun
  | [d1, d2, d3] => { results := [.lit (.bool false)], args := [d1, d2, d3] }
  | _ => none }
def FnExactWeaveSumWrongFalsely : Prop := fnExactWeaveSumRow.holds Try.pinned (OpenSpec.ofChange fnExactWeaveSumWrong)

/-- 'laws.FnPartsThree': WHATEVER THE INPUT: true; the input reads as it did. -/
def fnPartsThreeSpec : ChangeSpec := { name := "fnPartsThree", fn := fun _ => fun
  | [d] => { results := [.lit (.bool true)], args := [d] }
  | _ => none }
def fnPartsThreeRow : OpenClaim := { program := "ytgkafomenbbdcaa", sum := "aa53ae31cbca94e4bad044d4cb5a8c31ea35e718e1157ad85aa860fbe4f46663", func := "loop.example/ringorders/laws.FnPartsThree", spec := "fnPartsThree", plainKeys := false, apart := false }
def FnPartsThreeSaid : Prop := fnPartsThreeRow.holds Try.pinned (OpenSpec.ofChange fnPartsThreeSpec)

/-- ITS FALSE NEIGHBOUR: 'it returns false'. Refute it at one input. -/
def fnPartsThreeWrong : ChangeSpec := { name := "fnPartsThree", fn := fun _ => fun
  | [d] => { results := [.lit (.bool false)], args := [d] }
  | _ => none }
def FnPartsThreeWrongFalsely : Prop := fnPartsThreeRow.holds Try.pinned (OpenSpec.ofChange fnPartsThreeWrong)

/- THE SECOND FORM. 'bulk': how many values and letters a reading holds, each counted each time it is reached (what is shared counts as often as it is met; a slice's spare places count too). A statement '..UptoSaid' is the law's where the arguments, and the package variables that the reading takes, are together of bulk at most 1048576: NARROWER than '..Said'. Prove '..Said' where nothing that the law and all that it calls make is longer than what came in: it says more and counts as full. Else prove '..UptoSaid'. A law counts once. -/
mutual
def uptoBulk {H : Type} : DataW H → Nat
  | .lit (.string bytes) => bytes.length + 1
  | .lit _ => 1
  | .nil => 1
  | .ptr d => uptoBulk d + 1
  | .slice elems spare => uptoBulkAll elems + uptoBulkAll spare + 1
  | .agg parts => uptoBulkAll parts + 1
  | .iface _ d => uptoBulk d + 1
  | .map entries => uptoBulkEntries entries + 1
  | .held _ => 1
def uptoBulkAll {H : Type} : List (DataW H) → Nat
  | [] => 0
  | d :: r => uptoBulk d + uptoBulkAll r
def uptoBulkEntries {H : Type} : List (Lit × DataW H) → Nat
  | [] => 0
  | x :: r => uptoBulkEntry x + uptoBulkEntries r
def uptoBulkEntry {H : Type} : Lit × DataW H → Nat
  | (.string bytes, d) => bytes.length + uptoBulk d + 1
  | (_, d) => uptoBulk d + 1
 end
def uptoSmall : (H : Type) → List (DataW H) → Bool := fun _ ds => decide (uptoBulkAll ds ≤ 1048576)
def OpenSpec.upto (s : _root_.Go.ChangeSpec) : _root_.Go.OpenSpec := { _root_.Go.OpenSpec.ofChange s with cond := some uptoSmall }

/-- 'laws.FnThreeAll', WHERE WHAT IT READS IS OF BULK AT MOST 1048576: true; the input reads as it did. -/
def fnThreeAllUptoRow : OpenClaim := { program := "ytgkafomenbbdcaa", sum := "aa53ae31cbca94e4bad044d4cb5a8c31ea35e718e1157ad85aa860fbe4f46663", func := "loop.example/ringorders/laws.FnThreeAll", spec := "fnThreeAll", unfollowed := true, recurses := true, plainKeys := false, apart := false, narrowed := true }
def FnThreeAllUptoSaid : Prop := fnThreeAllUptoRow.holds Try.pinned (OpenSpec.upto fnThreeAllSpec)

/-- 'laws.FnTelling', WHERE WHAT IT READS IS OF BULK AT MOST 1048576: true; the input reads as it did. -/
def fnTellingUptoRow : OpenClaim := { program := "ytgkafomenbbdcaa", sum := "aa53ae31cbca94e4bad044d4cb5a8c31ea35e718e1157ad85aa860fbe4f46663", func := "loop.example/ringorders/laws.FnTelling", spec := "fnTelling", unfollowed := true, recurses := true, plainKeys := false, apart := false, narrowed := true }
def FnTellingUptoSaid : Prop := fnTellingUptoRow.holds Try.pinned (OpenSpec.upto fnTellingSpec)

/-- 'laws.FnClose', WHERE WHAT IT READS IS OF BULK AT MOST 1048576: true; the input reads as it did. -/
def fnCloseUptoRow : OpenClaim := { program := "ytgkafomenbbdcaa", sum := "aa53ae31cbca94e4bad044d4cb5a8c31ea35e718e1157ad85aa860fbe4f46663", func := "loop.example/ringorders/laws.FnClose", spec := "fnClose", unfollowed := true, recurses := true, plainKeys := false, apart := false, narrowed := true }
def FnCloseUptoSaid : Prop := fnCloseUptoRow.holds Try.pinned (OpenSpec.upto fnCloseSpec)

/-- 'laws.FnClash', WHERE WHAT IT READS IS OF BULK AT MOST 1048576: true; the input reads as it did. -/
def fnClashUptoRow : OpenClaim := { program := "ytgkafomenbbdcaa", sum := "aa53ae31cbca94e4bad044d4cb5a8c31ea35e718e1157ad85aa860fbe4f46663", func := "loop.example/ringorders/laws.FnClash", spec := "fnClash", unfollowed := true, recurses := true, plainKeys := false, apart := false, narrowed := true }
def FnClashUptoSaid : Prop := fnClashUptoRow.holds Try.pinned (OpenSpec.upto fnClashSpec)

/-- 'laws.FnRings', WHERE WHAT IT READS IS OF BULK AT MOST 1048576: true; the input reads as it did. -/
def fnRingsUptoRow : OpenClaim := { program := "ytgkafomenbbdcaa", sum := "aa53ae31cbca94e4bad044d4cb5a8c31ea35e718e1157ad85aa860fbe4f46663", func := "loop.example/ringorders/laws.FnRings", spec := "fnRings", unfollowed := true, recurses := true, plainKeys := false, apart := false, narrowed := true }
def FnRingsUptoSaid : Prop := fnRingsUptoRow.holds Try.pinned (OpenSpec.upto fnRingsSpec)

/-- 'laws.FnThreeFirst', WHERE WHAT IT READS IS OF BULK AT MOST 1048576: true; the input reads as it did. -/
def fnThreeFirstUptoRow : OpenClaim := { program := "ytgkafomenbbdcaa", sum := "aa53ae31cbca94e4bad044d4cb5a8c31ea35e718e1157ad85aa860fbe4f46663", func := "loop.example/ringorders/laws.FnThreeFirst", spec := "fnThreeFirst", unfollowed := true, recurses := true, plainKeys := false, apart := false, narrowed := true }
def FnThreeFirstUptoSaid : Prop := fnThreeFirstUptoRow.holds Try.pinned (OpenSpec.upto fnThreeFirstSpec)

/-- 'laws.FnSure', WHERE WHAT IT READS IS OF BULK AT MOST 1048576: true; the input reads as it did. -/
def fnSureUptoRow : OpenClaim := { program := "ytgkafomenbbdcaa", sum := "aa53ae31cbca94e4bad044d4cb5a8c31ea35e718e1157ad85aa860fbe4f46663", func := "loop.example/ringorders/laws.FnSure", spec := "fnSure", unfollowed := true, recurses := true, plainKeys := false, apart := false, narrowed := true }
def FnSureUptoSaid : Prop := fnSureUptoRow.holds Try.pinned (OpenSpec.upto fnSureSpec)

/-- 'laws.FnThreeMost', WHERE WHAT IT READS IS OF BULK AT MOST 1048576: true; the input reads as it did. -/
def fnThreeMostUptoRow : OpenClaim := { program := "ytgkafomenbbdcaa", sum := "aa53ae31cbca94e4bad044d4cb5a8c31ea35e718e1157ad85aa860fbe4f46663", func := "loop.example/ringorders/laws.FnThreeMost", spec := "fnThreeMost", unfollowed := true, recurses := true, plainKeys := false, apart := false, narrowed := true }
def FnThreeMostUptoSaid : Prop := fnThreeMostUptoRow.holds Try.pinned (OpenSpec.upto fnThreeMostSpec)

/-- 'laws.FnMostRing', WHERE WHAT IT READS IS OF BULK AT MOST 1048576: true; the input reads as it did. -/
def fnMostRingUptoRow : OpenClaim := { program := "ytgkafomenbbdcaa", sum := "aa53ae31cbca94e4bad044d4cb5a8c31ea35e718e1157ad85aa860fbe4f46663", func := "loop.example/ringorders/laws.FnMostRing", spec := "fnMostRing", unfollowed := true, recurses := true, plainKeys := false, apart := false, narrowed := true }
def FnMostRingUptoSaid : Prop := fnMostRingUptoRow.holds Try.pinned (OpenSpec.upto fnMostRingSpec)

/-- 'laws.FnThreeBack', WHERE WHAT IT READS IS OF BULK AT MOST 1048576: true; the input reads as it did. -/
def fnThreeBackUptoRow : OpenClaim := { program := "ytgkafomenbbdcaa", sum := "aa53ae31cbca94e4bad044d4cb5a8c31ea35e718e1157ad85aa860fbe4f46663", func := "loop.example/ringorders/laws.FnThreeBack", spec := "fnThreeBack", unfollowed := true, recurses := true, plainKeys := false, apart := false, narrowed := true }
def FnThreeBackUptoSaid : Prop := fnThreeBackUptoRow.holds Try.pinned (OpenSpec.upto fnThreeBackSpec)

/-- 'laws.FnMostBack', WHERE WHAT IT READS IS OF BULK AT MOST 1048576: true; the input reads as it did. -/
def fnMostBackUptoRow : OpenClaim := { program := "ytgkafomenbbdcaa", sum := "aa53ae31cbca94e4bad044d4cb5a8c31ea35e718e1157ad85aa860fbe4f46663", func := "loop.example/ringorders/laws.FnMostBack", spec := "fnMostBack", unfollowed := true, recurses := true, plainKeys := false, apart := false, narrowed := true }
def FnMostBackUptoSaid : Prop := fnMostBackUptoRow.holds Try.pinned (OpenSpec.upto fnMostBackSpec)

/-- 'laws.FnWeaveSum', WHERE WHAT IT READS IS OF BULK AT MOST 1048576: true; the input reads as it did. -/
def fnWeaveSumUptoRow : OpenClaim := { program := "ytgkafomenbbdcaa", sum := "aa53ae31cbca94e4bad044d4cb5a8c31ea35e718e1157ad85aa860fbe4f46663", func := "loop.example/ringorders/laws.FnWeaveSum", spec := "fnWeaveSum", unfollowed := true, recurses := true, plainKeys := false, apart := false, narrowed := true }
def FnWeaveSumUptoSaid : Prop := fnWeaveSumUptoRow.holds Try.pinned (OpenSpec.upto fnWeaveSumSpec)

/-- 'laws.FnExactWeaveIn', WHERE WHAT IT READS IS OF BULK AT MOST 1048576: true; the input reads as it did. -/
def fnExactWeaveInUptoRow : OpenClaim := { program := "ytgkafomenbbdcaa", sum := "aa53ae31cbca94e4bad044d4cb5a8c31ea35e718e1157ad85aa860fbe4f46663", func := "loop.example/ringorders/laws.FnExactWeaveIn", spec := "fnExactWeaveIn", unfollowed := true, recurses := true, plainKeys := false, apart := false, narrowed := true }
def FnExactWeaveInUptoSaid : Prop := fnExactWeaveInUptoRow.holds Try.pinned (OpenSpec.upto fnExactWeaveInSpec)

/-- 'laws.FnExactWeaveSum', WHERE WHAT IT READS IS OF BULK AT MOST 1048576: true; the input reads as it did. -/
def fnExactWeaveSumUptoRow : OpenClaim := { program := "ytgkafomenbbdcaa", sum := "aa53ae31cbca94e4bad044d4cb5a8c31ea35e718e1157ad85aa860fbe4f46663", func := "loop.example/ringorders/laws.FnExactWeaveSum", spec := "fnExactWeaveSum", unfollowed := true, recurses := true, plainKeys := false, apart := false, narrowed := true }
def FnExactWeaveSumUptoSaid : Prop := fnExactWeaveSumUptoRow.holds Try.pinned (OpenSpec.upto fnExactWeaveSumSpec)

/-- 'laws.FnPartsThree', WHERE WHAT IT READS IS OF BULK AT MOST 1048576: true; the input reads as it did. -/
def fnPartsThreeUptoRow : OpenClaim := { program := "ytgkafomenbbdcaa", sum := "aa53ae31cbca94e4bad044d4cb5a8c31ea35e718e1157ad85aa860fbe4f46663", func := "loop.example/ringorders/laws.FnPartsThree", spec := "fnPartsThree", plainKeys := false, apart := false, narrowed := true }
def FnPartsThreeUptoSaid : Prop := fnPartsThreeUptoRow.holds Try.pinned (OpenSpec.upto fnPartsThreeSpec)

end Rows
end Go.Proofs.Ytgkafomenbbdcaa
