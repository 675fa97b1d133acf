/-
  No cell of these rows narrows 'for every input' (looked for: loops, veiled, ifaces, maps, wideKeys, modest, calm, conditions, laid).
  DERIVED. THE GIVEN ROWS OF THIS SEAT. 2 by the template 'for every input the law returns true; each argument reads behind the call as it read before'; 0 by the template 'total and deterministic' (their statements: YtdcnplaghcgeoaaTotals.lean).
  GIVEN WITH THE SEED: the statements are not yours to turn. If you find one false, say at which input.
  Laid BY PROGRAM, IN A SANDBOX (cutbox-rows.mjs): the forced cells as the released guide's own fill.sh prints them over the translation 80ada16ffdbb35c0… (all of the seat's roots in one cut). By AI agents, Wed Nov 11 2026. No macro, syntax, notation, axiom, sorry.
-/
import Derived.Test.YtdcnplaghcgeoaaChecked
import GoSem.Claim
import GoSem.ClaimJoined
import GoSem.ClaimMapViews
import Derived.JoinedTies
import Derived.KernelRfl
namespace Go.Proofs.Ytdcnplaghcgeoaa
/- THE CELL 'sum', in the pinned program and in every row, IS THE sha256 OF THE DUMP (.gsa) THAT YtdcnplaghcgeoaaProg.lean LOADS. Nothing in Lean hashes anything: it is a label: what it is worth is what the hold of that sum in a sandbox is worth. -/
noncomputable def Try.pinned : Pinned := { name := "ytdcnplaghcgeoaa", sum := "80ada16ffdbb35c05fb78375a2e683aa3b287e40f5a1e52ac35d6dfddcf8a8c0", checked := Try.checked }
namespace Rows
def none {H : Type} : Left H := { results := [], args := [] }

/-- 'laws.FnPatternSum': WHATEVER THE INPUT: true; the input reads as it did. -/
def fnPatternSumSpec : ChangeSpec := { name := "fnPatternSum", fn := fun _ => fun
  | [d] => { results := [.lit (.bool true)], args := [d] }
  | _ => none }
def fnPatternSumRow : OpenClaim := { program := "ytdcnplaghcgeoaa", sum := "80ada16ffdbb35c05fb78375a2e683aa3b287e40f5a1e52ac35d6dfddcf8a8c0", func := "loop.example/ringorders/laws.FnPatternSum", spec := "fnPatternSum", apart := false }
def FnPatternSumSaid : Prop := fnPatternSumRow.holds Try.pinned (OpenSpec.ofChange fnPatternSumSpec)

/-- ITS FALSE NEIGHBOUR: 'it returns false'. Refute it at one input. -/
def fnPatternSumWrong : ChangeSpec := { name := "fnPatternSum", fn := fun _ => fun
  | [d] => { results := [.lit (.bool false)], args := [d] }
  | _ => none }
def FnPatternSumWrongFalsely : Prop := fnPatternSumRow.holds Try.pinned (OpenSpec.ofChange fnPatternSumWrong)

/-- 'laws.FnExactPatternSum': WHATEVER THE INPUT: true; the input reads as it did. -/
def fnExactPatternSumSpec : ChangeSpec := { name := "fnExactPatternSum", fn := fun _ => fun
  | [d1, d2] => { results := [.lit (.bool true)], args := [d1, d2] }
  | _ => none }
def fnExactPatternSumRow : OpenClaim := { program := "ytdcnplaghcgeoaa", sum := "80ada16ffdbb35c05fb78375a2e683aa3b287e40f5a1e52ac35d6dfddcf8a8c0", func := "loop.example/ringorders/laws.FnExactPatternSum", spec := "fnExactPatternSum", apart := false }
def FnExactPatternSumSaid : Prop := fnExactPatternSumRow.holds Try.pinned (OpenSpec.ofChange fnExactPatternSumSpec)

/-- ITS FALSE NEIGHBOUR: 'it returns false'. Refute it at one input. -/
def fnExactPatternSumWrong : ChangeSpec := { name := "fnExactPatternSum", fn := fun _ => fun
  | [d1, d2] => { results := [.lit (.bool false)], args := [d1, d2] }
  | _ => none }
def FnExactPatternSumWrongFalsely : Prop := fnExactPatternSumRow.holds Try.pinned (OpenSpec.ofChange fnExactPatternSumWrong)

/- THE SECOND FORM. 'bulk': how many values and letters a reading holds, each counted each time it is reached (what is shared counts as often as it is met; a slice's spare places count too). A statement '..UptoSaid' is the law's where the arguments, and the package variables that the reading takes, are together of bulk at most 1048576: NARROWER than '..Said'. Prove '..Said' where nothing that the law and all that it calls make is longer than what came in: it says more and counts as full. Else prove '..UptoSaid'. A law counts once. -/
mutual
def uptoBulk {H : Type} : DataW H → Nat
  | .lit (.string bytes) => bytes.length + 1
  | .lit _ => 1
  | .nil => 1
  | .ptr d => uptoBulk d + 1
  | .slice elems spare => uptoBulkAll elems + uptoBulkAll spare + 1
  | .agg parts => uptoBulkAll parts + 1
  | .iface _ d => uptoBulk d + 1
  | .map entries => uptoBulkEntries entries + 1
  | .held _ => 1
def uptoBulkAll {H : Type} : List (DataW H) → Nat
  | [] => 0
  | d :: r => uptoBulk d + uptoBulkAll r
def uptoBulkEntries {H : Type} : List (Lit × DataW H) → Nat
  | [] => 0
  | x :: r => uptoBulkEntry x + uptoBulkEntries r
def uptoBulkEntry {H : Type} : Lit × DataW H → Nat
  | (.string bytes, d) => bytes.length + uptoBulk d + 1
  | (_, d) => uptoBulk d + 1
 end
def uptoSmall : (H : Type) → List (DataW H) → Bool := fun _ ds => decide (uptoBulkAll ds ≤ 1048576)
def OpenSpec.upto (s : _root_.Go.ChangeSpec) : _root_.Go.OpenSpec := { _root_.Go.OpenSpec.ofChange s with cond := some uptoSmall }

/-- 'laws.FnPatternSum', WHERE WHAT IT READS IS OF BULK AT MOST 1048576: true; the input reads as it did. -/
def fnPatternSumUptoRow : OpenClaim := { program := "ytdcnplaghcgeoaa", sum := "80ada16ffdbb35c05fb78375a2e683aa3b287e40f5a1e52ac35d6dfddcf8a8c0", func := "loop.example/ringorders/laws.FnPatternSum", spec := "fnPatternSum", apart := false, narrowed := true }
def FnPatternSumUptoSaid : Prop := fnPatternSumUptoRow.holds Try.pinned (OpenSpec.upto fnPatternSumSpec)

/-- 'laws.FnExactPatternSum', WHERE WHAT IT READS IS OF BULK AT MOST 1048576: true; the input reads as it did. -/
def fnExactPatternSumUptoRow : OpenClaim := { program := "ytdcnplaghcgeoaa", sum := "80ada16ffdbb35c05fb78375a2e683aa3b287e40f5a1e52ac35d6dfddcf8a8c0", func := "loop.example/ringorders/laws.FnExactPatternSum", spec := "fnExactPatternSum", apart := false, narrowed := true }
def FnExactPatternSumUptoSaid : Prop := fnExactPatternSumUptoRow.holds Try.pinned (OpenSpec.upto fnExactPatternSumSpec)

end Rows
end Go.Proofs.Ytdcnplaghcgeoaa
