/-
  NARROWER THAN 'FOR EVERY INPUT', by the rows' own cells (each row's printed sentence says how): FnExactTermIn: laid · FnExactTermRow: laid · FnExactTermRing: laid · FnExactTermTidy: laid · FnExactTermFlat: laid · FnExactTermSame: laid · FnExactTermDeep: laid.
  DERIVED. THE GIVEN ROWS OF THIS SEAT. 7 by the template 'for every input the law returns true; each argument reads behind the call as it read before'; 0 by the template 'total and deterministic' (their statements: YtdmlhkmahmgdlaaDoorTotals.lean).
  GIVEN WITH THE SEED: the statements are not yours to turn. If you find one false, say at which input.
  Laid BY PROGRAM, IN A SANDBOX (cutbox-rows.mjs): the forced cells as the released guide's own fill.sh prints them over the translation 59467cc7eb91220f… (all of the seat's roots in one cut). By AI agents, Wed Nov 11 2026. No macro, syntax, notation, axiom, sorry.
-/
import Derived.Test.YtdmlhkmahmgdlaaDoorChecked
import GoSem.Claim
import GoSem.ClaimJoined
import GoSem.ClaimMapViews
import Derived.JoinedTies
import Derived.KernelRfl
namespace Go.Proofs.YtdmlhkmahmgdlaaDoor
/- THE CELL 'sum', in the pinned program and in every row, IS THE sha256 OF THE DUMP (.gsa) THAT YtdmlhkmahmgdlaaDoorProg.lean LOADS. Nothing in Lean hashes anything: it is a label: what it is worth is what the hold of that sum in a sandbox is worth. -/
noncomputable def Tryd.pinned : Pinned := { name := "ytdmlhkmahmgdlaadoor", sum := "59467cc7eb91220fac8ebdb728043e7e76d1da8a3de8b1368a182ddfb867cc33", checked := Tryd.checked }
namespace Rows
def none {H : Type} : Left H := { results := [], args := [] }

/- WHAT THE LISTED PACKAGE-LEVEL VARIABLES READ AS WHEN THE CALL BEGINS. Each datum BY PROGRAM (the guide's laid-datum.mjs) off the statement by which the dump's own 'gosem.cut.vars' lays the variable. In a bare row this is a premise. The card (YtdmlhkmahmgdlaaDoorCards.lean) ties it to the program's text. -/
def laid_errors_errorType {H : Type} : DataW H := .iface "internal/reflectlite.rtype" (.agg [.ptr (.lit (.string [101, 114, 114, 111, 114]))])

/-- 'laws.FnExactTermIn': WHATEVER THE INPUT: true; the input reads as it did. -/
def fnExactTermInSpec : ChangeSpec := { name := "fnExactTermIn", fn := fun _ => fun
  | [d] => { results := [.lit (.bool true)], args := [d] }
  | _ => none }
def fnExactTermInRow : OpenClaim := { program := "ytdmlhkmahmgdlaadoor", sum := "59467cc7eb91220fac8ebdb728043e7e76d1da8a3de8b1368a182ddfb867cc33", func := "loop.example/ringorders/laws.FnExactTermIn", spec := "fnExactTermIn", inPlace := ["internal/reflectlite.ValueOf", "(internal/reflectlite.Value).Type", "(internal/reflectlite.Value).IsNil", "internal/reflectlite.TypeOf", "(internal/reflectlite.Value).Elem", "(internal/reflectlite.Value).Set"], unfollowed := true, recurses := true, named := ["errors.errorType"], apart := false, laid := [("errors.errorType", laid_errors_errorType)] }
def FnExactTermInSaid : Prop := fnExactTermInRow.holds Tryd.pinned (OpenSpec.ofChange fnExactTermInSpec)

/-- ITS FALSE NEIGHBOUR: 'it returns false'. Refute it at one input. -/
def fnExactTermInWrong : ChangeSpec := { name := "fnExactTermIn", fn := fun _ => fun
  | [d] => { results := [.lit (.bool false)], args := [d] }
  | _ => none }
def FnExactTermInWrongFalsely : Prop := fnExactTermInRow.holds Tryd.pinned (OpenSpec.ofChange fnExactTermInWrong)

/-- 'laws.FnExactTermRow': WHATEVER THE INPUT: true; the input reads as it did. -/
def fnExactTermRowSpec : ChangeSpec := { name := "fnExactTermRow", fn := fun _ => fun
  | [d] => { results := [.lit (.bool true)], args := [d] }
  | _ => none }
def fnExactTermRowRow : OpenClaim := { program := "ytdmlhkmahmgdlaadoor", sum := "59467cc7eb91220fac8ebdb728043e7e76d1da8a3de8b1368a182ddfb867cc33", func := "loop.example/ringorders/laws.FnExactTermRow", spec := "fnExactTermRow", inPlace := ["internal/reflectlite.ValueOf", "(internal/reflectlite.Value).Type", "(internal/reflectlite.Value).IsNil", "internal/reflectlite.TypeOf", "(internal/reflectlite.Value).Elem", "(internal/reflectlite.Value).Set"], unfollowed := true, recurses := true, named := ["errors.errorType"], apart := false, laid := [("errors.errorType", laid_errors_errorType)] }
def FnExactTermRowSaid : Prop := fnExactTermRowRow.holds Tryd.pinned (OpenSpec.ofChange fnExactTermRowSpec)

/-- ITS FALSE NEIGHBOUR: 'it returns false'. Refute it at one input. -/
def fnExactTermRowWrong : ChangeSpec := { name := "fnExactTermRow", fn := fun _ => fun
  | [d] => { results := [.lit (.bool false)], args := [d] }
  | _ => none }
def FnExactTermRowWrongFalsely : Prop := fnExactTermRowRow.holds Tryd.pinned (OpenSpec.ofChange fnExactTermRowWrong)

/-- 'laws.FnExactTermRing': WHATEVER THE INPUT: true; the input reads as it did. -/
def fnExactTermRingSpec : ChangeSpec := { name := "fnExactTermRing", fn := fun _ => fun
  | [d] => { results := [.lit (.bool true)], args := [d] }
  | _ => none }
def fnExactTermRingRow : OpenClaim := { program := "ytdmlhkmahmgdlaadoor", sum := "59467cc7eb91220fac8ebdb728043e7e76d1da8a3de8b1368a182ddfb867cc33", func := "loop.example/ringorders/laws.FnExactTermRing", spec := "fnExactTermRing", inPlace := ["internal/reflectlite.ValueOf", "(internal/reflectlite.Value).Type", "(internal/reflectlite.Value).IsNil", "internal/reflectlite.TypeOf", "(internal/reflectlite.Value).Elem", "(internal/reflectlite.Value).Set"], unfollowed := true, recurses := true, named := ["errors.errorType"], apart := false, laid := [("errors.errorType", laid_errors_errorType)] }
def FnExactTermRingSaid : Prop := fnExactTermRingRow.holds Tryd.pinned (OpenSpec.ofChange fnExactTermRingSpec)

/-- ITS FALSE NEIGHBOUR: 'it returns false'. Refute it at one input. -/
def fnExactTermRingWrong : ChangeSpec := { name := "fnExactTermRing", fn := fun _ => fun
  | [d] => { results := [.lit (.bool false)], args := [d] }
  | _ => none }
def FnExactTermRingWrongFalsely : Prop := fnExactTermRingRow.holds Tryd.pinned (OpenSpec.ofChange fnExactTermRingWrong)

/-- 'laws.FnExactTermTidy': WHATEVER THE INPUT: true; the input reads as it did. -/
def fnExactTermTidySpec : ChangeSpec := { name := "fnExactTermTidy", fn := fun _ => fun
  | [d] => { results := [.lit (.bool true)], args := [d] }
  | _ => none }
def fnExactTermTidyRow : OpenClaim := { program := "ytdmlhkmahmgdlaadoor", sum := "59467cc7eb91220fac8ebdb728043e7e76d1da8a3de8b1368a182ddfb867cc33", func := "loop.example/ringorders/laws.FnExactTermTidy", spec := "fnExactTermTidy", inPlace := ["internal/reflectlite.ValueOf", "(internal/reflectlite.Value).Type", "(internal/reflectlite.Value).IsNil", "internal/reflectlite.TypeOf", "(internal/reflectlite.Value).Elem", "(internal/reflectlite.Value).Set", "internal/abi.NoEscape", "internal/bytealg.MakeNoZero"], unfollowed := true, recurses := true, named := ["errors.errorType"], apart := false, laid := [("errors.errorType", laid_errors_errorType)] }
def FnExactTermTidySaid : Prop := fnExactTermTidyRow.holds Tryd.pinned (OpenSpec.ofChange fnExactTermTidySpec)

/-- ITS FALSE NEIGHBOUR: 'it returns false'. Refute it at one input. -/
def fnExactTermTidyWrong : ChangeSpec := { name := "fnExactTermTidy", fn := fun _ => fun
  | [d] => { results := [.lit (.bool false)], args := [d] }
  | _ => none }
def FnExactTermTidyWrongFalsely : Prop := fnExactTermTidyRow.holds Tryd.pinned (OpenSpec.ofChange fnExactTermTidyWrong)

/-- 'laws.FnExactTermFlat': WHATEVER THE INPUT: true; the input reads as it did. -/
def fnExactTermFlatSpec : ChangeSpec := { name := "fnExactTermFlat", fn := fun _ => fun
  | [d] => { results := [.lit (.bool true)], args := [d] }
  | _ => none }
def fnExactTermFlatRow : OpenClaim := { program := "ytdmlhkmahmgdlaadoor", sum := "59467cc7eb91220fac8ebdb728043e7e76d1da8a3de8b1368a182ddfb867cc33", func := "loop.example/ringorders/laws.FnExactTermFlat", spec := "fnExactTermFlat", inPlace := ["internal/reflectlite.ValueOf", "(internal/reflectlite.Value).Type", "(internal/reflectlite.Value).IsNil", "internal/reflectlite.TypeOf", "(internal/reflectlite.Value).Elem", "(internal/reflectlite.Value).Set", "internal/abi.NoEscape", "internal/bytealg.MakeNoZero"], unfollowed := true, recurses := true, named := ["errors.errorType"], apart := false, laid := [("errors.errorType", laid_errors_errorType)] }
def FnExactTermFlatSaid : Prop := fnExactTermFlatRow.holds Tryd.pinned (OpenSpec.ofChange fnExactTermFlatSpec)

/-- ITS FALSE NEIGHBOUR: 'it returns false'. Refute it at one input. -/
def fnExactTermFlatWrong : ChangeSpec := { name := "fnExactTermFlat", fn := fun _ => fun
  | [d] => { results := [.lit (.bool false)], args := [d] }
  | _ => none }
def FnExactTermFlatWrongFalsely : Prop := fnExactTermFlatRow.holds Tryd.pinned (OpenSpec.ofChange fnExactTermFlatWrong)

/-- 'laws.FnExactTermSame': WHATEVER THE INPUT: true; the input reads as it did. -/
def fnExactTermSameSpec : ChangeSpec := { name := "fnExactTermSame", fn := fun _ => fun
  | [d1, d2] => { results := [.lit (.bool true)], args := [d1, d2] }
  | _ => none }
def fnExactTermSameRow : OpenClaim := { program := "ytdmlhkmahmgdlaadoor", sum := "59467cc7eb91220fac8ebdb728043e7e76d1da8a3de8b1368a182ddfb867cc33", func := "loop.example/ringorders/laws.FnExactTermSame", spec := "fnExactTermSame", inPlace := ["internal/reflectlite.ValueOf", "(internal/reflectlite.Value).Type", "(internal/reflectlite.Value).IsNil", "internal/reflectlite.TypeOf", "(internal/reflectlite.Value).Elem", "(internal/reflectlite.Value).Set"], unfollowed := true, recurses := true, named := ["errors.errorType"], apart := false, laid := [("errors.errorType", laid_errors_errorType)] }
def FnExactTermSameSaid : Prop := fnExactTermSameRow.holds Tryd.pinned (OpenSpec.ofChange fnExactTermSameSpec)

/-- ITS FALSE NEIGHBOUR: 'it returns false'. Refute it at one input. -/
def fnExactTermSameWrong : ChangeSpec := { name := "fnExactTermSame", fn := fun _ => fun
  | [d1, d2] => { results := [.lit (.bool false)], args := [d1, d2] }
  | _ => none }
def FnExactTermSameWrongFalsely : Prop := fnExactTermSameRow.holds Tryd.pinned (OpenSpec.ofChange fnExactTermSameWrong)

/-- 'laws.FnExactTermDeep': WHATEVER THE INPUT: true; the input reads as it did. -/
def fnExactTermDeepSpec : ChangeSpec := { name := "fnExactTermDeep", fn := fun _ => fun
  | [d] => { results := [.lit (.bool true)], args := [d] }
  | _ => none }
def fnExactTermDeepRow : OpenClaim := { program := "ytdmlhkmahmgdlaadoor", sum := "59467cc7eb91220fac8ebdb728043e7e76d1da8a3de8b1368a182ddfb867cc33", func := "loop.example/ringorders/laws.FnExactTermDeep", spec := "fnExactTermDeep", inPlace := ["internal/reflectlite.ValueOf", "(internal/reflectlite.Value).Type", "(internal/reflectlite.Value).IsNil", "internal/reflectlite.TypeOf", "(internal/reflectlite.Value).Elem", "(internal/reflectlite.Value).Set"], unfollowed := true, recurses := true, named := ["errors.errorType"], apart := false, laid := [("errors.errorType", laid_errors_errorType)] }
def FnExactTermDeepSaid : Prop := fnExactTermDeepRow.holds Tryd.pinned (OpenSpec.ofChange fnExactTermDeepSpec)

/-- ITS FALSE NEIGHBOUR: 'it returns false'. Refute it at one input. -/
def fnExactTermDeepWrong : ChangeSpec := { name := "fnExactTermDeep", fn := fun _ => fun
  | [d] => { results := [.lit (.bool false)], args := [d] }
  | _ => none }
def FnExactTermDeepWrongFalsely : Prop := fnExactTermDeepRow.holds Tryd.pinned (OpenSpec.ofChange fnExactTermDeepWrong)

/- THE SECOND FORM. 'bulk': how many values and letters a reading holds, each counted each time it is reached (what is shared counts as often as it is met; a slice's spare places count too). A statement '..UptoSaid' is the law's where the arguments, and the package variables that the reading takes, are together of bulk at most 1048576: NARROWER than '..Said'. Prove '..Said' where nothing that the law and all that it calls make is longer than what came in: it says more and counts as full. Else prove '..UptoSaid'. A law counts once. -/
mutual
def uptoBulk {H : Type} : DataW H → Nat
  | .lit (.string bytes) => bytes.length + 1
  | .lit _ => 1
  | .nil => 1
  | .ptr d => uptoBulk d + 1
  | .slice elems spare => uptoBulkAll elems + uptoBulkAll spare + 1
  | .agg parts => uptoBulkAll parts + 1
  | .iface _ d => uptoBulk d + 1
  | .map entries => uptoBulkEntries entries + 1
  | .held _ => 1
def uptoBulkAll {H : Type} : List (DataW H) → Nat
  | [] => 0
  | d :: r => uptoBulk d + uptoBulkAll r
def uptoBulkEntries {H : Type} : List (Lit × DataW H) → Nat
  | [] => 0
  | x :: r => uptoBulkEntry x + uptoBulkEntries r
def uptoBulkEntry {H : Type} : Lit × DataW H → Nat
  | (.string bytes, d) => bytes.length + uptoBulk d + 1
  | (_, d) => uptoBulk d + 1
 end
def uptoSmall : (H : Type) → List (DataW H) → Bool := fun _ ds => decide (uptoBulkAll ds ≤ 1048576)
def OpenSpec.upto (s : _root_.Go.ChangeSpec) : _root_.Go.OpenSpec := { _root_.Go.OpenSpec.ofChange s with cond := some uptoSmall }

/-- 'laws.FnExactTermIn', WHERE WHAT IT READS IS OF BULK AT MOST 1048576: true; the input reads as it did. -/
def fnExactTermInUptoRow : OpenClaim := { program := "ytdmlhkmahmgdlaadoor", sum := "59467cc7eb91220fac8ebdb728043e7e76d1da8a3de8b1368a182ddfb867cc33", func := "loop.example/ringorders/laws.FnExactTermIn", spec := "fnExactTermIn", inPlace := ["internal/reflectlite.ValueOf", "(internal/reflectlite.Value).Type", "(internal/reflectlite.Value).IsNil", "internal/reflectlite.TypeOf", "(internal/reflectlite.Value).Elem", "(internal/reflectlite.Value).Set"], unfollowed := true, recurses := true, named := ["errors.errorType"], apart := false, laid := [("errors.errorType", laid_errors_errorType)], narrowed := true }
def FnExactTermInUptoSaid : Prop := fnExactTermInUptoRow.holds Tryd.pinned (OpenSpec.upto fnExactTermInSpec)

/-- 'laws.FnExactTermRow', WHERE WHAT IT READS IS OF BULK AT MOST 1048576: true; the input reads as it did. -/
def fnExactTermRowUptoRow : OpenClaim := { program := "ytdmlhkmahmgdlaadoor", sum := "59467cc7eb91220fac8ebdb728043e7e76d1da8a3de8b1368a182ddfb867cc33", func := "loop.example/ringorders/laws.FnExactTermRow", spec := "fnExactTermRow", inPlace := ["internal/reflectlite.ValueOf", "(internal/reflectlite.Value).Type", "(internal/reflectlite.Value).IsNil", "internal/reflectlite.TypeOf", "(internal/reflectlite.Value).Elem", "(internal/reflectlite.Value).Set"], unfollowed := true, recurses := true, named := ["errors.errorType"], apart := false, laid := [("errors.errorType", laid_errors_errorType)], narrowed := true }
def FnExactTermRowUptoSaid : Prop := fnExactTermRowUptoRow.holds Tryd.pinned (OpenSpec.upto fnExactTermRowSpec)

/-- 'laws.FnExactTermRing', WHERE WHAT IT READS IS OF BULK AT MOST 1048576: true; the input reads as it did. -/
def fnExactTermRingUptoRow : OpenClaim := { program := "ytdmlhkmahmgdlaadoor", sum := "59467cc7eb91220fac8ebdb728043e7e76d1da8a3de8b1368a182ddfb867cc33", func := "loop.example/ringorders/laws.FnExactTermRing", spec := "fnExactTermRing", inPlace := ["internal/reflectlite.ValueOf", "(internal/reflectlite.Value).Type", "(internal/reflectlite.Value).IsNil", "internal/reflectlite.TypeOf", "(internal/reflectlite.Value).Elem", "(internal/reflectlite.Value).Set"], unfollowed := true, recurses := true, named := ["errors.errorType"], apart := false, laid := [("errors.errorType", laid_errors_errorType)], narrowed := true }
def FnExactTermRingUptoSaid : Prop := fnExactTermRingUptoRow.holds Tryd.pinned (OpenSpec.upto fnExactTermRingSpec)

/-- 'laws.FnExactTermTidy', WHERE WHAT IT READS IS OF BULK AT MOST 1048576: true; the input reads as it did. -/
def fnExactTermTidyUptoRow : OpenClaim := { program := "ytdmlhkmahmgdlaadoor", sum := "59467cc7eb91220fac8ebdb728043e7e76d1da8a3de8b1368a182ddfb867cc33", func := "loop.example/ringorders/laws.FnExactTermTidy", spec := "fnExactTermTidy", inPlace := ["internal/reflectlite.ValueOf", "(internal/reflectlite.Value).Type", "(internal/reflectlite.Value).IsNil", "internal/reflectlite.TypeOf", "(internal/reflectlite.Value).Elem", "(internal/reflectlite.Value).Set", "internal/abi.NoEscape", "internal/bytealg.MakeNoZero"], unfollowed := true, recurses := true, named := ["errors.errorType"], apart := false, laid := [("errors.errorType", laid_errors_errorType)], narrowed := true }
def FnExactTermTidyUptoSaid : Prop := fnExactTermTidyUptoRow.holds Tryd.pinned (OpenSpec.upto fnExactTermTidySpec)

/-- 'laws.FnExactTermFlat', WHERE WHAT IT READS IS OF BULK AT MOST 1048576: true; the input reads as it did. -/
def fnExactTermFlatUptoRow : OpenClaim := { program := "ytdmlhkmahmgdlaadoor", sum := "59467cc7eb91220fac8ebdb728043e7e76d1da8a3de8b1368a182ddfb867cc33", func := "loop.example/ringorders/laws.FnExactTermFlat", spec := "fnExactTermFlat", inPlace := ["internal/reflectlite.ValueOf", "(internal/reflectlite.Value).Type", "(internal/reflectlite.Value).IsNil", "internal/reflectlite.TypeOf", "(internal/reflectlite.Value).Elem", "(internal/reflectlite.Value).Set", "internal/abi.NoEscape", "internal/bytealg.MakeNoZero"], unfollowed := true, recurses := true, named := ["errors.errorType"], apart := false, laid := [("errors.errorType", laid_errors_errorType)], narrowed := true }
def FnExactTermFlatUptoSaid : Prop := fnExactTermFlatUptoRow.holds Tryd.pinned (OpenSpec.upto fnExactTermFlatSpec)

/-- 'laws.FnExactTermSame', WHERE WHAT IT READS IS OF BULK AT MOST 1048576: true; the input reads as it did. -/
def fnExactTermSameUptoRow : OpenClaim := { program := "ytdmlhkmahmgdlaadoor", sum := "59467cc7eb91220fac8ebdb728043e7e76d1da8a3de8b1368a182ddfb867cc33", func := "loop.example/ringorders/laws.FnExactTermSame", spec := "fnExactTermSame", inPlace := ["internal/reflectlite.ValueOf", "(internal/reflectlite.Value).Type", "(internal/reflectlite.Value).IsNil", "internal/reflectlite.TypeOf", "(internal/reflectlite.Value).Elem", "(internal/reflectlite.Value).Set"], unfollowed := true, recurses := true, named := ["errors.errorType"], apart := false, laid := [("errors.errorType", laid_errors_errorType)], narrowed := true }
def FnExactTermSameUptoSaid : Prop := fnExactTermSameUptoRow.holds Tryd.pinned (OpenSpec.upto fnExactTermSameSpec)

/-- 'laws.FnExactTermDeep', WHERE WHAT IT READS IS OF BULK AT MOST 1048576: true; the input reads as it did. -/
def fnExactTermDeepUptoRow : OpenClaim := { program := "ytdmlhkmahmgdlaadoor", sum := "59467cc7eb91220fac8ebdb728043e7e76d1da8a3de8b1368a182ddfb867cc33", func := "loop.example/ringorders/laws.FnExactTermDeep", spec := "fnExactTermDeep", inPlace := ["internal/reflectlite.ValueOf", "(internal/reflectlite.Value).Type", "(internal/reflectlite.Value).IsNil", "internal/reflectlite.TypeOf", "(internal/reflectlite.Value).Elem", "(internal/reflectlite.Value).Set"], unfollowed := true, recurses := true, named := ["errors.errorType"], apart := false, laid := [("errors.errorType", laid_errors_errorType)], narrowed := true }
def FnExactTermDeepUptoSaid : Prop := fnExactTermDeepUptoRow.holds Tryd.pinned (OpenSpec.upto fnExactTermDeepSpec)

end Rows
end Go.Proofs.YtdmlhkmahmgdlaaDoor
