/-
  No cell of these rows narrows 'for every input' (looked for: loops, veiled, ifaces, maps, wideKeys, modest, calm, conditions, laid).
  DERIVED. THE GIVEN ROWS OF THIS SEAT. 11 by the template 'for every input the law returns true; each argument reads behind the call as it read before'; 0 by the template 'total and deterministic' (their statements: YtbaejpjgeapceaaTotals.lean).
  GIVEN WITH THE SEED: the statements are not yours to turn. If you find one false, say at which input.
  Laid BY PROGRAM, IN A SANDBOX (cutbox-rows.mjs): the forced cells as the released guide's own fill.sh prints them over the translation 25b8463b6f9cd5e9… (all of the seat's roots in one cut). By AI agents, Wed Nov 11 2026. No macro, syntax, notation, axiom, sorry.
-/
import Derived.Test.YtbaejpjgeapceaaChecked
import GoSem.Claim
import GoSem.ClaimJoined
import GoSem.ClaimMapViews
import Derived.JoinedTies
import Derived.KernelRfl
namespace Go.Proofs.Ytbaejpjgeapceaa
/- THE CELL 'sum', in the pinned program and in every row, IS THE sha256 OF THE DUMP (.gsa) THAT YtbaejpjgeapceaaProg.lean LOADS. Nothing in Lean hashes anything: it is a label: what it is worth is what the hold of that sum in a sandbox is worth. -/
noncomputable def Try.pinned : Pinned := { name := "ytbaejpjgeapceaa", sum := "25b8463b6f9cd5e98532e50f97607a5e2ec8bc21e6384dba8e09a76f027cc6fe", checked := Try.checked }
namespace Rows
def none {H : Type} : Left H := { results := [], args := [] }

/-- 'laws.FnThree': WHATEVER THE INPUT: true; the input reads as it did. -/
def fnThreeSpec : ChangeSpec := { name := "fnThree", fn := fun _ => fun
  | [d] => { results := [.lit (.bool true)], args := [d] }
  | _ => none }
def fnThreeRow : OpenClaim := { program := "ytbaejpjgeapceaa", sum := "25b8463b6f9cd5e98532e50f97607a5e2ec8bc21e6384dba8e09a76f027cc6fe", func := "loop.example/ringorders/laws.FnThree", spec := "fnThree", apart := false }
def FnThreeSaid : Prop := fnThreeRow.holds Try.pinned (OpenSpec.ofChange fnThreeSpec)

/-- ITS FALSE NEIGHBOUR: 'it returns false'. Refute it at one input. -/
def fnThreeWrong : ChangeSpec := { name := "fnThree", fn := fun _ => fun
  | [d] => { results := [.lit (.bool false)], args := [d] }
  | _ => none }
def FnThreeWrongFalsely : Prop := fnThreeRow.holds Try.pinned (OpenSpec.ofChange fnThreeWrong)

/-- 'laws.FnExactPairParts': WHATEVER THE INPUT: true; the input reads as it did. -/
def fnExactPairPartsSpec : ChangeSpec := { name := "fnExactPairParts", fn := fun _ => fun
  | [d1, d2] => { results := [.lit (.bool true)], args := [d1, d2] }
  | _ => none }
def fnExactPairPartsRow : OpenClaim := { program := "ytbaejpjgeapceaa", sum := "25b8463b6f9cd5e98532e50f97607a5e2ec8bc21e6384dba8e09a76f027cc6fe", func := "loop.example/ringorders/laws.FnExactPairParts", spec := "fnExactPairParts", apart := false }
def FnExactPairPartsSaid : Prop := fnExactPairPartsRow.holds Try.pinned (OpenSpec.ofChange fnExactPairPartsSpec)

/-- ITS FALSE NEIGHBOUR: 'it returns false'. Refute it at one input. -/
def fnExactPairPartsWrong : ChangeSpec := { name := "fnExactPairParts", fn := fun _ => fun
  | [d1, d2] => { results := [.lit (.bool false)], args := [d1, d2] }
  | _ => none }
def FnExactPairPartsWrongFalsely : Prop := fnExactPairPartsRow.holds Try.pinned (OpenSpec.ofChange fnExactPairPartsWrong)

/-- 'laws.FnExactPairAll': WHATEVER THE INPUT: true; the input reads as it did. -/
def fnExactPairAllSpec : ChangeSpec := { name := "fnExactPairAll", fn := fun _ => fun
  | [d] => { results := [.lit (.bool true)], args := [d] }
  | _ => none }
def fnExactPairAllRow : OpenClaim := { program := "ytbaejpjgeapceaa", sum := "25b8463b6f9cd5e98532e50f97607a5e2ec8bc21e6384dba8e09a76f027cc6fe", func := "loop.example/ringorders/laws.FnExactPairAll", spec := "fnExactPairAll", unfollowed := true, recurses := true, apart := false }
def FnExactPairAllSaid : Prop := fnExactPairAllRow.holds Try.pinned (OpenSpec.ofChange fnExactPairAllSpec)

/-- ITS FALSE NEIGHBOUR: 'it returns false'. Refute it at one input. -/
def fnExactPairAllWrong : ChangeSpec := { name := "fnExactPairAll", fn := fun _ => fun
  | [d] => { results := [.lit (.bool false)], args := [d] }
  | _ => none }
def FnExactPairAllWrongFalsely : Prop := fnExactPairAllRow.holds Try.pinned (OpenSpec.ofChange fnExactPairAllWrong)

/-- 'laws.FnExactPairScheme': WHATEVER THE INPUT: true; the input reads as it did. -/
def fnExactPairSchemeSpec : ChangeSpec := { name := "fnExactPairScheme", fn := fun _ => fun
  | [d1, d2] => { results := [.lit (.bool true)], args := [d1, d2] }
  | _ => none }
def fnExactPairSchemeRow : OpenClaim := { program := "ytbaejpjgeapceaa", sum := "25b8463b6f9cd5e98532e50f97607a5e2ec8bc21e6384dba8e09a76f027cc6fe", func := "loop.example/ringorders/laws.FnExactPairScheme", spec := "fnExactPairScheme", unfollowed := true, recurses := true, apart := false }
def FnExactPairSchemeSaid : Prop := fnExactPairSchemeRow.holds Try.pinned (OpenSpec.ofChange fnExactPairSchemeSpec)

/-- ITS FALSE NEIGHBOUR: 'it returns false'. Refute it at one input. -/
def fnExactPairSchemeWrong : ChangeSpec := { name := "fnExactPairScheme", fn := fun _ => fun
  | [d1, d2] => { results := [.lit (.bool false)], args := [d1, d2] }
  | _ => none }
def FnExactPairSchemeWrongFalsely : Prop := fnExactPairSchemeRow.holds Try.pinned (OpenSpec.ofChange fnExactPairSchemeWrong)

/-- 'laws.FnExactPairRings': WHATEVER THE INPUT: true; the input reads as it did. -/
def fnExactPairRingsSpec : ChangeSpec := { name := "fnExactPairRings", fn := fun _ => fun
  | [d1, d2] => { results := [.lit (.bool true)], args := [d1, d2] }
  | _ => none }
def fnExactPairRingsRow : OpenClaim := { program := "ytbaejpjgeapceaa", sum := "25b8463b6f9cd5e98532e50f97607a5e2ec8bc21e6384dba8e09a76f027cc6fe", func := "loop.example/ringorders/laws.FnExactPairRings", spec := "fnExactPairRings", unfollowed := true, recurses := true, apart := false }
def FnExactPairRingsSaid : Prop := fnExactPairRingsRow.holds Try.pinned (OpenSpec.ofChange fnExactPairRingsSpec)

/-- ITS FALSE NEIGHBOUR: 'it returns false'. Refute it at one input. -/
def fnExactPairRingsWrong : ChangeSpec := { name := "fnExactPairRings", fn := fun _ => fun
  | [d1, d2] => { results := [.lit (.bool false)], args := [d1, d2] }
  | _ => none }
def FnExactPairRingsWrongFalsely : Prop := fnExactPairRingsRow.holds Try.pinned (OpenSpec.ofChange fnExactPairRingsWrong)

/-- 'laws.FnExactPairFirst': WHATEVER THE INPUT: true; the input reads as it did. -/
def fnExactPairFirstSpec : ChangeSpec := { name := "fnExactPairFirst", fn := fun _ => fun
  | [d1, d2] => { results := [.lit (.bool true)], args := [d1, d2] }
  | _ => none }
def fnExactPairFirstRow : OpenClaim := { program := "ytbaejpjgeapceaa", sum := "25b8463b6f9cd5e98532e50f97607a5e2ec8bc21e6384dba8e09a76f027cc6fe", func := "loop.example/ringorders/laws.FnExactPairFirst", spec := "fnExactPairFirst", unfollowed := true, recurses := true, apart := false }
def FnExactPairFirstSaid : Prop := fnExactPairFirstRow.holds Try.pinned (OpenSpec.ofChange fnExactPairFirstSpec)

/-- ITS FALSE NEIGHBOUR: 'it returns false'. Refute it at one input. -/
def fnExactPairFirstWrong : ChangeSpec := { name := "fnExactPairFirst", fn := fun _ => fun
  | [d1, d2] => { results := [.lit (.bool false)], args := [d1, d2] }
  | _ => none }
def FnExactPairFirstWrongFalsely : Prop := fnExactPairFirstRow.holds Try.pinned (OpenSpec.ofChange fnExactPairFirstWrong)

/-- 'laws.FnExactPairMany': WHATEVER THE INPUT: true; the input reads as it did. -/
def fnExactPairManySpec : ChangeSpec := { name := "fnExactPairMany", fn := fun _ => fun
  | [d] => { results := [.lit (.bool true)], args := [d] }
  | _ => none }
def fnExactPairManyRow : OpenClaim := { program := "ytbaejpjgeapceaa", sum := "25b8463b6f9cd5e98532e50f97607a5e2ec8bc21e6384dba8e09a76f027cc6fe", func := "loop.example/ringorders/laws.FnExactPairMany", spec := "fnExactPairMany", unfollowed := true, recurses := true, apart := false }
def FnExactPairManySaid : Prop := fnExactPairManyRow.holds Try.pinned (OpenSpec.ofChange fnExactPairManySpec)

/-- ITS FALSE NEIGHBOUR: 'it returns false'. Refute it at one input. -/
def fnExactPairManyWrong : ChangeSpec := { name := "fnExactPairMany", fn := fun _ => fun
  | [d] => { results := [.lit (.bool false)], args := [d] }
  | _ => none }
def FnExactPairManyWrongFalsely : Prop := fnExactPairManyRow.holds Try.pinned (OpenSpec.ofChange fnExactPairManyWrong)

/-- 'laws.FnExactPairBeside': WHATEVER THE INPUT: true; the input reads as it did. -/
def fnExactPairBesideSpec : ChangeSpec := { name := "fnExactPairBeside", fn := fun _ => fun
  | [d1, d2, d3] => { results := [.lit (.bool true)], args := [d1, d2, d3] }
  | _ => none }
def fnExactPairBesideRow : OpenClaim := { program := "ytbaejpjgeapceaa", sum := "25b8463b6f9cd5e98532e50f97607a5e2ec8bc21e6384dba8e09a76f027cc6fe", func := "loop.example/ringorders/laws.FnExactPairBeside", spec := "fnExactPairBeside", apart := false }
def FnExactPairBesideSaid : Prop := fnExactPairBesideRow.holds Try.pinned (OpenSpec.ofChange fnExactPairBesideSpec)

/-- ITS FALSE NEIGHBOUR: 'it returns false'. Refute it at one input. -/
def fnExactPairBesideWrong : ChangeSpec := { name := "fnExactPairBeside", fn := fun _ => fun
  | [d1, d2, d3] => { results := [.lit (.bool false)], args := [d1, d2, d3] }
  | _ => none }
def FnExactPairBesideWrongFalsely : Prop := fnExactPairBesideRow.holds Try.pinned (OpenSpec.ofChange fnExactPairBesideWrong)

/-- 'laws.FnExactPairChords': WHATEVER THE INPUT: true; the input reads as it did. -/
def fnExactPairChordsSpec : ChangeSpec := { name := "fnExactPairChords", fn := fun _ => fun
  | [d1, d2] => { results := [.lit (.bool true)], args := [d1, d2] }
  | _ => none }
def fnExactPairChordsRow : OpenClaim := { program := "ytbaejpjgeapceaa", sum := "25b8463b6f9cd5e98532e50f97607a5e2ec8bc21e6384dba8e09a76f027cc6fe", func := "loop.example/ringorders/laws.FnExactPairChords", spec := "fnExactPairChords", unfollowed := true, recurses := true, apart := false }
def FnExactPairChordsSaid : Prop := fnExactPairChordsRow.holds Try.pinned (OpenSpec.ofChange fnExactPairChordsSpec)

/-- ITS FALSE NEIGHBOUR: 'it returns false'. Refute it at one input. -/
def fnExactPairChordsWrong : ChangeSpec := { name := "fnExactPairChords", fn := fun _ => fun
  | [d1, d2] => { results := [.lit (.bool false)], args := [d1, d2] }
  | _ => none }
def FnExactPairChordsWrongFalsely : Prop := fnExactPairChordsRow.holds Try.pinned (OpenSpec.ofChange fnExactPairChordsWrong)

/-- 'laws.FnExactPairFewest': WHATEVER THE INPUT: true; the input reads as it did. -/
def fnExactPairFewestSpec : ChangeSpec := { name := "fnExactPairFewest", fn := fun _ => fun
  | [d1, d2] => { results := [.lit (.bool true)], args := [d1, d2] }
  | _ => none }
def fnExactPairFewestRow : OpenClaim := { program := "ytbaejpjgeapceaa", sum := "25b8463b6f9cd5e98532e50f97607a5e2ec8bc21e6384dba8e09a76f027cc6fe", func := "loop.example/ringorders/laws.FnExactPairFewest", spec := "fnExactPairFewest", unfollowed := true, recurses := true, apart := false }
def FnExactPairFewestSaid : Prop := fnExactPairFewestRow.holds Try.pinned (OpenSpec.ofChange fnExactPairFewestSpec)

/-- ITS FALSE NEIGHBOUR: 'it returns false'. Refute it at one input. -/
def fnExactPairFewestWrong : ChangeSpec := { name := "fnExactPairFewest", fn := fun _ => fun
  | [d1, d2] => { results := [.lit (.bool false)], args := [d1, d2] }
  | _ => none }
def FnExactPairFewestWrongFalsely : Prop := fnExactPairFewestRow.holds Try.pinned (OpenSpec.ofChange fnExactPairFewestWrong)

/-- 'laws.FnExactPairSame': WHATEVER THE INPUT: true; the input reads as it did. -/
def fnExactPairSameSpec : ChangeSpec := { name := "fnExactPairSame", fn := fun _ => fun
  | [d1, d2] => { results := [.lit (.bool true)], args := [d1, d2] }
  | _ => none }
def fnExactPairSameRow : OpenClaim := { program := "ytbaejpjgeapceaa", sum := "25b8463b6f9cd5e98532e50f97607a5e2ec8bc21e6384dba8e09a76f027cc6fe", func := "loop.example/ringorders/laws.FnExactPairSame", spec := "fnExactPairSame", unfollowed := true, recurses := true, apart := false }
def FnExactPairSameSaid : Prop := fnExactPairSameRow.holds Try.pinned (OpenSpec.ofChange fnExactPairSameSpec)

/-- ITS FALSE NEIGHBOUR: 'it returns false'. Refute it at one input. -/
def fnExactPairSameWrong : ChangeSpec := { name := "fnExactPairSame", fn := fun _ => fun
  | [d1, d2] => { results := [.lit (.bool false)], args := [d1, d2] }
  | _ => none }
def FnExactPairSameWrongFalsely : Prop := fnExactPairSameRow.holds Try.pinned (OpenSpec.ofChange fnExactPairSameWrong)

/- THE SECOND FORM. 'bulk': how many values and letters a reading holds, each counted each time it is reached (what is shared counts as often as it is met; a slice's spare places count too). A statement '..UptoSaid' is the law's where the arguments, and the package variables that the reading takes, are together of bulk at most 1048576: NARROWER than '..Said'. Prove '..Said' where nothing that the law and all that it calls make is longer than what came in: it says more and counts as full. Else prove '..UptoSaid'. A law counts once. -/
mutual
def uptoBulk {H : Type} : DataW H → Nat
  | .lit (.string bytes) => bytes.length + 1
  | .lit _ => 1
  | .nil => 1
  | .ptr d => uptoBulk d + 1
  | .slice elems spare => uptoBulkAll elems + uptoBulkAll spare + 1
  | .agg parts => uptoBulkAll parts + 1
  | .iface _ d => uptoBulk d + 1
  | .map entries => uptoBulkEntries entries + 1
  | .held _ => 1
def uptoBulkAll {H : Type} : List (DataW H) → Nat
  | [] => 0
  | d :: r => uptoBulk d + uptoBulkAll r
def uptoBulkEntries {H : Type} : List (Lit × DataW H) → Nat
  | [] => 0
  | x :: r => uptoBulkEntry x + uptoBulkEntries r
def uptoBulkEntry {H : Type} : Lit × DataW H → Nat
  | (.string bytes, d) => bytes.length + uptoBulk d + 1
  | (_, d) => uptoBulk d + 1
 end
def uptoSmall : (H : Type) → List (DataW H) → Bool := fun _ ds => decide (uptoBulkAll ds ≤ 1048576)
def OpenSpec.upto (s : _root_.Go.ChangeSpec) : _root_.Go.OpenSpec := { _root_.Go.OpenSpec.ofChange s with cond := some uptoSmall }

/-- 'laws.FnThree', WHERE WHAT IT READS IS OF BULK AT MOST 1048576: true; the input reads as it did. -/
def fnThreeUptoRow : OpenClaim := { program := "ytbaejpjgeapceaa", sum := "25b8463b6f9cd5e98532e50f97607a5e2ec8bc21e6384dba8e09a76f027cc6fe", func := "loop.example/ringorders/laws.FnThree", spec := "fnThree", apart := false, narrowed := true }
def FnThreeUptoSaid : Prop := fnThreeUptoRow.holds Try.pinned (OpenSpec.upto fnThreeSpec)

/-- 'laws.FnExactPairParts', WHERE WHAT IT READS IS OF BULK AT MOST 1048576: true; the input reads as it did. -/
def fnExactPairPartsUptoRow : OpenClaim := { program := "ytbaejpjgeapceaa", sum := "25b8463b6f9cd5e98532e50f97607a5e2ec8bc21e6384dba8e09a76f027cc6fe", func := "loop.example/ringorders/laws.FnExactPairParts", spec := "fnExactPairParts", apart := false, narrowed := true }
def FnExactPairPartsUptoSaid : Prop := fnExactPairPartsUptoRow.holds Try.pinned (OpenSpec.upto fnExactPairPartsSpec)

/-- 'laws.FnExactPairAll', WHERE WHAT IT READS IS OF BULK AT MOST 1048576: true; the input reads as it did. -/
def fnExactPairAllUptoRow : OpenClaim := { program := "ytbaejpjgeapceaa", sum := "25b8463b6f9cd5e98532e50f97607a5e2ec8bc21e6384dba8e09a76f027cc6fe", func := "loop.example/ringorders/laws.FnExactPairAll", spec := "fnExactPairAll", unfollowed := true, recurses := true, apart := false, narrowed := true }
def FnExactPairAllUptoSaid : Prop := fnExactPairAllUptoRow.holds Try.pinned (OpenSpec.upto fnExactPairAllSpec)

/-- 'laws.FnExactPairScheme', WHERE WHAT IT READS IS OF BULK AT MOST 1048576: true; the input reads as it did. -/
def fnExactPairSchemeUptoRow : OpenClaim := { program := "ytbaejpjgeapceaa", sum := "25b8463b6f9cd5e98532e50f97607a5e2ec8bc21e6384dba8e09a76f027cc6fe", func := "loop.example/ringorders/laws.FnExactPairScheme", spec := "fnExactPairScheme", unfollowed := true, recurses := true, apart := false, narrowed := true }
def FnExactPairSchemeUptoSaid : Prop := fnExactPairSchemeUptoRow.holds Try.pinned (OpenSpec.upto fnExactPairSchemeSpec)

/-- 'laws.FnExactPairRings', WHERE WHAT IT READS IS OF BULK AT MOST 1048576: true; the input reads as it did. -/
def fnExactPairRingsUptoRow : OpenClaim := { program := "ytbaejpjgeapceaa", sum := "25b8463b6f9cd5e98532e50f97607a5e2ec8bc21e6384dba8e09a76f027cc6fe", func := "loop.example/ringorders/laws.FnExactPairRings", spec := "fnExactPairRings", unfollowed := true, recurses := true, apart := false, narrowed := true }
def FnExactPairRingsUptoSaid : Prop := fnExactPairRingsUptoRow.holds Try.pinned (OpenSpec.upto fnExactPairRingsSpec)

/-- 'laws.FnExactPairFirst', WHERE WHAT IT READS IS OF BULK AT MOST 1048576: true; the input reads as it did. -/
def fnExactPairFirstUptoRow : OpenClaim := { program := "ytbaejpjgeapceaa", sum := "25b8463b6f9cd5e98532e50f97607a5e2ec8bc21e6384dba8e09a76f027cc6fe", func := "loop.example/ringorders/laws.FnExactPairFirst", spec := "fnExactPairFirst", unfollowed := true, recurses := true, apart := false, narrowed := true }
def FnExactPairFirstUptoSaid : Prop := fnExactPairFirstUptoRow.holds Try.pinned (OpenSpec.upto fnExactPairFirstSpec)

/-- 'laws.FnExactPairMany', WHERE WHAT IT READS IS OF BULK AT MOST 1048576: true; the input reads as it did. -/
def fnExactPairManyUptoRow : OpenClaim := { program := "ytbaejpjgeapceaa", sum := "25b8463b6f9cd5e98532e50f97607a5e2ec8bc21e6384dba8e09a76f027cc6fe", func := "loop.example/ringorders/laws.FnExactPairMany", spec := "fnExactPairMany", unfollowed := true, recurses := true, apart := false, narrowed := true }
def FnExactPairManyUptoSaid : Prop := fnExactPairManyUptoRow.holds Try.pinned (OpenSpec.upto fnExactPairManySpec)

/-- 'laws.FnExactPairBeside', WHERE WHAT IT READS IS OF BULK AT MOST 1048576: true; the input reads as it did. -/
def fnExactPairBesideUptoRow : OpenClaim := { program := "ytbaejpjgeapceaa", sum := "25b8463b6f9cd5e98532e50f97607a5e2ec8bc21e6384dba8e09a76f027cc6fe", func := "loop.example/ringorders/laws.FnExactPairBeside", spec := "fnExactPairBeside", apart := false, narrowed := true }
def FnExactPairBesideUptoSaid : Prop := fnExactPairBesideUptoRow.holds Try.pinned (OpenSpec.upto fnExactPairBesideSpec)

/-- 'laws.FnExactPairChords', WHERE WHAT IT READS IS OF BULK AT MOST 1048576: true; the input reads as it did. -/
def fnExactPairChordsUptoRow : OpenClaim := { program := "ytbaejpjgeapceaa", sum := "25b8463b6f9cd5e98532e50f97607a5e2ec8bc21e6384dba8e09a76f027cc6fe", func := "loop.example/ringorders/laws.FnExactPairChords", spec := "fnExactPairChords", unfollowed := true, recurses := true, apart := false, narrowed := true }
def FnExactPairChordsUptoSaid : Prop := fnExactPairChordsUptoRow.holds Try.pinned (OpenSpec.upto fnExactPairChordsSpec)

/-- 'laws.FnExactPairFewest', WHERE WHAT IT READS IS OF BULK AT MOST 1048576: true; the input reads as it did. -/
def fnExactPairFewestUptoRow : OpenClaim := { program := "ytbaejpjgeapceaa", sum := "25b8463b6f9cd5e98532e50f97607a5e2ec8bc21e6384dba8e09a76f027cc6fe", func := "loop.example/ringorders/laws.FnExactPairFewest", spec := "fnExactPairFewest", unfollowed := true, recurses := true, apart := false, narrowed := true }
def FnExactPairFewestUptoSaid : Prop := fnExactPairFewestUptoRow.holds Try.pinned (OpenSpec.upto fnExactPairFewestSpec)

/-- 'laws.FnExactPairSame', WHERE WHAT IT READS IS OF BULK AT MOST 1048576: true; the input reads as it did. -/
def fnExactPairSameUptoRow : OpenClaim := { program := "ytbaejpjgeapceaa", sum := "25b8463b6f9cd5e98532e50f97607a5e2ec8bc21e6384dba8e09a76f027cc6fe", func := "loop.example/ringorders/laws.FnExactPairSame", spec := "fnExactPairSame", unfollowed := true, recurses := true, apart := false, narrowed := true }
def FnExactPairSameUptoSaid : Prop := fnExactPairSameUptoRow.holds Try.pinned (OpenSpec.upto fnExactPairSameSpec)

end Rows
end Go.Proofs.Ytbaejpjgeapceaa
