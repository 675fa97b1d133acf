/-
  No cell of these rows narrows 'for every input' (looked for: loops, veiled, ifaces, maps, wideKeys, modest, calm, conditions, laid).
  DERIVED. THE GIVEN ROWS OF THIS SEAT. 3 by the template 'for every input the law returns true; each argument reads behind the call as it read before'; 0 by the template 'total and deterministic' (their statements: YtpfdlgofkcpglaaTotals.lean).
  GIVEN WITH THE SEED: the statements are not yours to turn. If you find one false, say at which input.
  Laid BY PROGRAM, IN A SANDBOX (cutbox-rows.mjs): the forced cells as the released guide's own fill.sh prints them over the translation 9b9b6438aba02d58… (all of the seat's roots in one cut). By AI agents, Wed Nov 11 2026. No macro, syntax, notation, axiom, sorry.
-/
import Derived.Test.YtpfdlgofkcpglaaChecked
import GoSem.Claim
import GoSem.ClaimJoined
import GoSem.ClaimMapViews
import Derived.JoinedTies
import Derived.KernelRfl
namespace Go.Proofs.Ytpfdlgofkcpglaa
/- THE CELL 'sum', in the pinned program and in every row, IS THE sha256 OF THE DUMP (.gsa) THAT YtpfdlgofkcpglaaProg.lean LOADS. Nothing in Lean hashes anything: it is a label: what it is worth is what the hold of that sum in a sandbox is worth. -/
noncomputable def Try.pinned : Pinned := { name := "ytpfdlgofkcpglaa", sum := "9b9b6438aba02d58b22c04a9b40c4adb8698e9750857573ba82db22ee409105c", checked := Try.checked }
namespace Rows
def none {H : Type} : Left H := { results := [], args := [] }

/-- 'laws.FnWeaveSum': WHATEVER THE INPUT: true; the input reads as it did. -/
def fnWeaveSumSpec : ChangeSpec := { name := "fnWeaveSum", fn := fun _ => fun
  | [d] => { results := [.lit (.bool true)], args := [d] }
  | _ => none }
def fnWeaveSumRow : OpenClaim := { program := "ytpfdlgofkcpglaa", sum := "9b9b6438aba02d58b22c04a9b40c4adb8698e9750857573ba82db22ee409105c", func := "loop.example/ringorders/laws.FnWeaveSum", spec := "fnWeaveSum", unfollowed := true, recurses := true, apart := false }
def FnWeaveSumSaid : Prop := fnWeaveSumRow.holds Try.pinned (OpenSpec.ofChange fnWeaveSumSpec)

/-- ITS FALSE NEIGHBOUR: 'it returns false'. Refute it at one input. -/
def fnWeaveSumWrong : ChangeSpec := { name := "fnWeaveSum", fn := fun _ => fun
  | [d] => { results := [.lit (.bool false)], args := [d] }
  | _ => none }
def FnWeaveSumWrongFalsely : Prop := fnWeaveSumRow.holds Try.pinned (OpenSpec.ofChange fnWeaveSumWrong)

/-- 'laws.FnExactWeaveIn': WHATEVER THE INPUT: true; the input reads as it did. -/
def fnExactWeaveInSpec : ChangeSpec := { name := "fnExactWeaveIn", fn := fun _ => fun
  | [d1, d2] => { results := [.lit (.bool true)], args := [d1, d2] }
  | _ => none }
def fnExactWeaveInRow : OpenClaim := { program := "ytpfdlgofkcpglaa", sum := "9b9b6438aba02d58b22c04a9b40c4adb8698e9750857573ba82db22ee409105c", func := "loop.example/ringorders/laws.FnExactWeaveIn", spec := "fnExactWeaveIn", unfollowed := true, recurses := true, apart := false }
def FnExactWeaveInSaid : Prop := fnExactWeaveInRow.holds Try.pinned (OpenSpec.ofChange fnExactWeaveInSpec)

/-- ITS FALSE NEIGHBOUR: 'it returns false'. Refute it at one input. -/
def fnExactWeaveInWrong : ChangeSpec := { name := "fnExactWeaveIn", fn := fun _ => fun
  | [d1, d2] => { results := [.lit (.bool false)], args := [d1, d2] }
  | _ => none }
def FnExactWeaveInWrongFalsely : Prop := fnExactWeaveInRow.holds Try.pinned (OpenSpec.ofChange fnExactWeaveInWrong)

/-- 'laws.FnExactWeaveSum': WHATEVER THE INPUT: true; the input reads as it did. -/
def fnExactWeaveSumSpec : ChangeSpec := { name := "fnExactWeaveSum", fn := fun _ => fun
  | [d1, d2, d3] => { results := [.lit (.bool true)], args := [d1, d2, d3] }
  | _ => none }
def fnExactWeaveSumRow : OpenClaim := { program := "ytpfdlgofkcpglaa", sum := "9b9b6438aba02d58b22c04a9b40c4adb8698e9750857573ba82db22ee409105c", func := "loop.example/ringorders/laws.FnExactWeaveSum", spec := "fnExactWeaveSum", unfollowed := true, recurses := true, apart := false }
def FnExactWeaveSumSaid : Prop := fnExactWeaveSumRow.holds Try.pinned (OpenSpec.ofChange fnExactWeaveSumSpec)

/-- ITS FALSE NEIGHBOUR: 'it returns false'. Refute it at one input. -/
def fnExactWeaveSumWrong : ChangeSpec := { name := "fnExactWeaveSum", fn := fun _ => fun
  | [d1, d2, d3] => { results := [.lit (.bool false)], args := [d1, d2, d3] }
  | _ => none }
def FnExactWeaveSumWrongFalsely : Prop := fnExactWeaveSumRow.holds Try.pinned (OpenSpec.ofChange fnExactWeaveSumWrong)

/- THE SECOND FORM. 'bulk': how many values and letters a reading holds, each counted each time it is reached (what is shared counts as often as it is met; a slice's spare places count too). A statement '..UptoSaid' is the law's where the arguments, and the package variables that the reading takes, are together of bulk at most 1048576: NARROWER than '..Said'. Prove '..Said' where nothing that the law and all that it calls make is longer than what came in: it says more and counts as full. Else prove '..UptoSaid'. A law counts once. -/
mutual
def uptoBulk {H : Type} : DataW H → Nat
  | .lit (.string bytes) => bytes.length + 1
  | .lit _ => 1
  | .nil => 1
  | .ptr d => uptoBulk d + 1
  | .slice elems spare => uptoBulkAll elems + uptoBulkAll spare + 1
  | .agg parts => uptoBulkAll parts + 1
  | .iface _ d => uptoBulk d + 1
  | .map entries => uptoBulkEntries entries + 1
  | .held _ => 1
def uptoBulkAll {H : Type} : List (DataW H) → Nat
  | [] => 0
  | d :: r => uptoBulk d + uptoBulkAll r
def uptoBulkEntries {H : Type} : List (Lit × DataW H) → Nat
  | [] => 0
  | x :: r => uptoBulkEntry x + uptoBulkEntries r
def uptoBulkEntry {H : Type} : Lit × DataW H → Nat
  | (.string bytes, d) => bytes.length + uptoBulk d + 1
  | (_, d) => uptoBulk d + 1
 end
def uptoSmall : (H : Type) → List (DataW H) → Bool := fun _ ds => decide (uptoBulkAll ds ≤ 1048576)
def OpenSpec.upto (s : _root_.Go.ChangeSpec) : _root_.Go.OpenSpec := { _root_.Go.OpenSpec.ofChange s with cond := some uptoSmall }

/-- 'laws.FnWeaveSum', WHERE WHAT IT READS IS OF BULK AT MOST 1048576: true; the input reads as it did. -/
def fnWeaveSumUptoRow : OpenClaim := { program := "ytpfdlgofkcpglaa", sum := "9b9b6438aba02d58b22c04a9b40c4adb8698e9750857573ba82db22ee409105c", func := "loop.example/ringorders/laws.FnWeaveSum", spec := "fnWeaveSum", unfollowed := true, recurses := true, apart := false, narrowed := true }
def FnWeaveSumUptoSaid : Prop := fnWeaveSumUptoRow.holds Try.pinned (OpenSpec.upto fnWeaveSumSpec)

/-- 'laws.FnExactWeaveIn', WHERE WHAT IT READS IS OF BULK AT MOST 1048576: true; the input reads as it did. -/
def fnExactWeaveInUptoRow : OpenClaim := { program := "ytpfdlgofkcpglaa", sum := "9b9b6438aba02d58b22c04a9b40c4adb8698e9750857573ba82db22ee409105c", func := "loop.example/ringorders/laws.FnExactWeaveIn", spec := "fnExactWeaveIn", unfollowed := true, recurses := true, apart := false, narrowed := true }
def FnExactWeaveInUptoSaid : Prop := fnExactWeaveInUptoRow.holds Try.pinned (OpenSpec.upto fnExactWeaveInSpec)

/-- 'laws.FnExactWeaveSum', WHERE WHAT IT READS IS OF BULK AT MOST 1048576: true; the input reads as it did. -/
def fnExactWeaveSumUptoRow : OpenClaim := { program := "ytpfdlgofkcpglaa", sum := "9b9b6438aba02d58b22c04a9b40c4adb8698e9750857573ba82db22ee409105c", func := "loop.example/ringorders/laws.FnExactWeaveSum", spec := "fnExactWeaveSum", unfollowed := true, recurses := true, apart := false, narrowed := true }
def FnExactWeaveSumUptoSaid : Prop := fnExactWeaveSumUptoRow.holds Try.pinned (OpenSpec.upto fnExactWeaveSumSpec)

end Rows
end Go.Proofs.Ytpfdlgofkcpglaa
