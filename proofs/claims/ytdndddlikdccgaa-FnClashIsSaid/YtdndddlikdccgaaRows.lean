/-
  No cell of these rows narrows 'for every input' (looked for: loops, veiled, ifaces, maps, wideKeys, modest, calm, conditions, laid).
  DERIVED. THE GIVEN ROWS OF THIS SEAT. 10 by the template 'for every input the law returns true; each argument reads behind the call as it read before'; 0 by the template 'total and deterministic' (their statements: YtdndddlikdccgaaTotals.lean).
  GIVEN WITH THE SEED: the statements are not yours to turn. If you find one false, say at which input.
  Laid BY PROGRAM, IN A SANDBOX (cutbox-rows.mjs): the forced cells as the released guide's own fill.sh prints them over the translation 5945714dddd31b6c… (all of the seat's roots in one cut). By AI agents, Wed Nov 11 2026. No macro, syntax, notation, axiom, sorry.
-/
import Derived.Test.YtdndddlikdccgaaChecked
import GoSem.Claim
import GoSem.ClaimJoined
import GoSem.ClaimMapViews
import Derived.JoinedTies
import Derived.KernelRfl
namespace Go.Proofs.Ytdndddlikdccgaa
/- THE CELL 'sum', in the pinned program and in every row, IS THE sha256 OF THE DUMP (.gsa) THAT YtdndddlikdccgaaProg.lean LOADS. Nothing in Lean hashes anything: it is a label: what it is worth is what the hold of that sum in a sandbox is worth. -/
noncomputable def Try.pinned : Pinned := { name := "ytdndddlikdccgaa", sum := "5945714dddd31b6ce936d649dfa928af91ce9bb6e241a11e88a357c10d24e27a", checked := Try.checked }
namespace Rows
def none {H : Type} : Left H := { results := [], args := [] }

/-- 'laws.FnTelling': WHATEVER THE INPUT: true; the input reads as it did. -/
def fnTellingSpec : ChangeSpec := { name := "fnTelling", fn := fun _ => fun
  | [d] => { results := [.lit (.bool true)], args := [d] }
  | _ => none }
def fnTellingRow : OpenClaim := { program := "ytdndddlikdccgaa", sum := "5945714dddd31b6ce936d649dfa928af91ce9bb6e241a11e88a357c10d24e27a", func := "loop.example/ringorders/laws.FnTelling", spec := "fnTelling", unfollowed := true, recurses := true, plainKeys := false, apart := false }
def FnTellingSaid : Prop := fnTellingRow.holds Try.pinned (OpenSpec.ofChange fnTellingSpec)

/-- ITS FALSE NEIGHBOUR: 'it returns false'. Refute it at one input. -/
def fnTellingWrong : ChangeSpec := { name := "fnTelling", fn := fun _ => fun
  | [d] => { results := [.lit (.bool false)], args := [d] }
  | _ => none }
def FnTellingWrongFalsely : Prop := fnTellingRow.holds Try.pinned (OpenSpec.ofChange fnTellingWrong)

/-- 'laws.FnClose': WHATEVER THE INPUT: true; the input reads as it did. -/
def fnCloseSpec : ChangeSpec := { name := "fnClose", fn := fun _ => fun
  | [d] => { results := [.lit (.bool true)], args := [d] }
  | _ => none }
def fnCloseRow : OpenClaim := { program := "ytdndddlikdccgaa", sum := "5945714dddd31b6ce936d649dfa928af91ce9bb6e241a11e88a357c10d24e27a", func := "loop.example/ringorders/laws.FnClose", spec := "fnClose", unfollowed := true, recurses := true, plainKeys := false, apart := false }
def FnCloseSaid : Prop := fnCloseRow.holds Try.pinned (OpenSpec.ofChange fnCloseSpec)

/-- ITS FALSE NEIGHBOUR: 'it returns false'. Refute it at one input. -/
def fnCloseWrong : ChangeSpec := { name := "fnClose", fn := fun _ => fun
  | [d] => { results := [.lit (.bool false)], args := [d] }
  | _ => none }
def FnCloseWrongFalsely : Prop := fnCloseRow.holds Try.pinned (OpenSpec.ofChange fnCloseWrong)

/-- 'laws.FnClash': WHATEVER THE INPUT: true; the input reads as it did. -/
def fnClashSpec : ChangeSpec := { name := "fnClash", fn := fun _ => fun
  | [d] => { results := [.lit (.bool true)], args := [d] }
  | _ => none }
def fnClashRow : OpenClaim := { program := "ytdndddlikdccgaa", sum := "5945714dddd31b6ce936d649dfa928af91ce9bb6e241a11e88a357c10d24e27a", func := "loop.example/ringorders/laws.FnClash", spec := "fnClash", unfollowed := true, recurses := true, plainKeys := false, apart := false }
def FnClashSaid : Prop := fnClashRow.holds Try.pinned (OpenSpec.ofChange fnClashSpec)

/-- ITS FALSE NEIGHBOUR: 'it returns false'. Refute it at one input. -/
def fnClashWrong : ChangeSpec := { name := "fnClash", fn := fun _ => fun
  | [d] => { results := [.lit (.bool false)], args := [d] }
  | _ => none }
def FnClashWrongFalsely : Prop := fnClashRow.holds Try.pinned (OpenSpec.ofChange fnClashWrong)

/-- 'laws.FnRings': WHATEVER THE INPUT: true; the input reads as it did. -/
def fnRingsSpec : ChangeSpec := { name := "fnRings", fn := fun _ => fun
  | [d] => { results := [.lit (.bool true)], args := [d] }
  | _ => none }
def fnRingsRow : OpenClaim := { program := "ytdndddlikdccgaa", sum := "5945714dddd31b6ce936d649dfa928af91ce9bb6e241a11e88a357c10d24e27a", func := "loop.example/ringorders/laws.FnRings", spec := "fnRings", unfollowed := true, recurses := true, plainKeys := false, apart := false }
def FnRingsSaid : Prop := fnRingsRow.holds Try.pinned (OpenSpec.ofChange fnRingsSpec)

/-- ITS FALSE NEIGHBOUR: 'it returns false'. Refute it at one input. -/
def fnRingsWrong : ChangeSpec := { name := "fnRings", fn := fun _ => fun
  | [d] => { results := [.lit (.bool false)], args := [d] }
  | _ => none }
def FnRingsWrongFalsely : Prop := fnRingsRow.holds Try.pinned (OpenSpec.ofChange fnRingsWrong)

/-- 'laws.FnThreeFirst': WHATEVER THE INPUT: true; the input reads as it did. -/
def fnThreeFirstSpec : ChangeSpec := { name := "fnThreeFirst", fn := fun _ => fun
  | [d] => { results := [.lit (.bool true)], args := [d] }
  | _ => none }
def fnThreeFirstRow : OpenClaim := { program := "ytdndddlikdccgaa", sum := "5945714dddd31b6ce936d649dfa928af91ce9bb6e241a11e88a357c10d24e27a", func := "loop.example/ringorders/laws.FnThreeFirst", spec := "fnThreeFirst", unfollowed := true, recurses := true, plainKeys := false, apart := false }
def FnThreeFirstSaid : Prop := fnThreeFirstRow.holds Try.pinned (OpenSpec.ofChange fnThreeFirstSpec)

/-- ITS FALSE NEIGHBOUR: 'it returns false'. Refute it at one input. -/
def fnThreeFirstWrong : ChangeSpec := { name := "fnThreeFirst", fn := fun _ => fun
  | [d] => { results := [.lit (.bool false)], args := [d] }
  | _ => none }
def FnThreeFirstWrongFalsely : Prop := fnThreeFirstRow.holds Try.pinned (OpenSpec.ofChange fnThreeFirstWrong)

/-- 'laws.FnSure': WHATEVER THE INPUT: true; the input reads as it did. -/
def fnSureSpec : ChangeSpec := { name := "fnSure", fn := fun _ => fun
  | [d] => { results := [.lit (.bool true)], args := [d] }
  | _ => none }
def fnSureRow : OpenClaim := { program := "ytdndddlikdccgaa", sum := "5945714dddd31b6ce936d649dfa928af91ce9bb6e241a11e88a357c10d24e27a", func := "loop.example/ringorders/laws.FnSure", spec := "fnSure", unfollowed := true, recurses := true, plainKeys := false, apart := false }
def FnSureSaid : Prop := fnSureRow.holds Try.pinned (OpenSpec.ofChange fnSureSpec)

/-- ITS FALSE NEIGHBOUR: 'it returns false'. Refute it at one input. -/
def fnSureWrong : ChangeSpec := { name := "fnSure", fn := fun _ => fun
  | [d] => { results := [.lit (.bool false)], args := [d] }
  | _ => none }
def FnSureWrongFalsely : Prop := fnSureRow.holds Try.pinned (OpenSpec.ofChange fnSureWrong)

/-- 'laws.FnThreeMost': WHATEVER THE INPUT: true; the input reads as it did. -/
def fnThreeMostSpec : ChangeSpec := { name := "fnThreeMost", fn := fun _ => fun
  | [d] => { results := [.lit (.bool true)], args := [d] }
  | _ => none }
def fnThreeMostRow : OpenClaim := { program := "ytdndddlikdccgaa", sum := "5945714dddd31b6ce936d649dfa928af91ce9bb6e241a11e88a357c10d24e27a", func := "loop.example/ringorders/laws.FnThreeMost", spec := "fnThreeMost", unfollowed := true, recurses := true, plainKeys := false, apart := false }
def FnThreeMostSaid : Prop := fnThreeMostRow.holds Try.pinned (OpenSpec.ofChange fnThreeMostSpec)

/-- ITS FALSE NEIGHBOUR: 'it returns false'. Refute it at one input. -/
def fnThreeMostWrong : ChangeSpec := { name := "fnThreeMost", fn := fun _ => fun
  | [d] => { results := [.lit (.bool false)], args := [d] }
  | _ => none }
def FnThreeMostWrongFalsely : Prop := fnThreeMostRow.holds Try.pinned (OpenSpec.ofChange fnThreeMostWrong)

/-- 'laws.FnMostRing': WHATEVER THE INPUT: true; the input reads as it did. -/
def fnMostRingSpec : ChangeSpec := { name := "fnMostRing", fn := fun _ => fun
  | [d] => { results := [.lit (.bool true)], args := [d] }
  | _ => none }
def fnMostRingRow : OpenClaim := { program := "ytdndddlikdccgaa", sum := "5945714dddd31b6ce936d649dfa928af91ce9bb6e241a11e88a357c10d24e27a", func := "loop.example/ringorders/laws.FnMostRing", spec := "fnMostRing", unfollowed := true, recurses := true, plainKeys := false, apart := false }
def FnMostRingSaid : Prop := fnMostRingRow.holds Try.pinned (OpenSpec.ofChange fnMostRingSpec)

/-- ITS FALSE NEIGHBOUR: 'it returns false'. Refute it at one input. -/
def fnMostRingWrong : ChangeSpec := { name := "fnMostRing", fn := fun _ => fun
  | [d] => { results := [.lit (.bool false)], args := [d] }
  | _ => none }
def FnMostRingWrongFalsely : Prop := fnMostRingRow.holds Try.pinned (OpenSpec.ofChange fnMostRingWrong)

/-- 'laws.FnThreeBack': WHATEVER THE INPUT: true; the input reads as it did. -/
def fnThreeBackSpec : ChangeSpec := { name := "fnThreeBack", fn := fun _ => fun
  | [d] => { results := [.lit (.bool true)], args := [d] }
  | _ => none }
def fnThreeBackRow : OpenClaim := { program := "ytdndddlikdccgaa", sum := "5945714dddd31b6ce936d649dfa928af91ce9bb6e241a11e88a357c10d24e27a", func := "loop.example/ringorders/laws.FnThreeBack", spec := "fnThreeBack", unfollowed := true, recurses := true, plainKeys := false, apart := false }
def FnThreeBackSaid : Prop := fnThreeBackRow.holds Try.pinned (OpenSpec.ofChange fnThreeBackSpec)

/-- ITS FALSE NEIGHBOUR: 'it returns false'. Refute it at one input. -/
def fnThreeBackWrong : ChangeSpec := { name := "fnThreeBack", fn := fun _ => fun
  | [d] => { results := [.lit (.bool false)], args := [d] }
  | _ => none }
def FnThreeBackWrongFalsely : Prop := fnThreeBackRow.holds Try.pinned (OpenSpec.ofChange fnThreeBackWrong)

/-- 'laws.FnClashIs': WHATEVER THE INPUT: true; the input reads as it did. -/
def fnClashIsSpec : ChangeSpec := { name := "fnClashIs", fn := fun _ => fun
  | [d] => { results := [.lit (.bool true)], args := [d] }
  | _ => none }
def fnClashIsRow : OpenClaim := { program := "ytdndddlikdccgaa", sum := "5945714dddd31b6ce936d649dfa928af91ce9bb6e241a11e88a357c10d24e27a", func := "loop.example/ringorders/laws.FnClashIs", spec := "fnClashIs", unfollowed := true, recurses := true, plainKeys := false, apart := false }
def FnClashIsSaid : Prop := fnClashIsRow.holds Try.pinned (OpenSpec.ofChange fnClashIsSpec)

/-- ITS FALSE NEIGHBOUR: 'it returns false'. Refute it at one input. -/
def fnClashIsWrong : ChangeSpec := { name := "fnClashIs", fn := fun _ => fun
  | [d] => { results := [.lit (.bool false)], args := [d] }
  | _ => none }
def FnClashIsWrongFalsely : Prop := fnClashIsRow.holds Try.pinned (OpenSpec.ofChange fnClashIsWrong)

/- THE SECOND FORM. 'bulk': how many values and letters a reading holds, each counted each time it is reached (what is shared counts as often as it is met; a slice's spare places count too). A statement '..UptoSaid' is the law's where the arguments, and the package variables that the reading takes, are together of bulk at most 1048576: NARROWER than '..Said'. Prove '..Said' where nothing that the law and all that it calls make is longer than what came in: it says more and counts as full. Else prove '..UptoSaid'. A law counts once. -/
mutual
def uptoBulk {H : Type} : DataW H → Nat
  | .lit (.string bytes) => bytes.length + 1
  | .lit _ => 1
  | .nil => 1
  | .ptr d => uptoBulk d + 1
  | .slice elems spare => uptoBulkAll elems + uptoBulkAll spare + 1
  | .agg parts => uptoBulkAll parts + 1
  | .iface _ d => uptoBulk d + 1
  | .map entries => uptoBulkEntries entries + 1
  | .held _ => 1
def uptoBulkAll {H : Type} : List (DataW H) → Nat
  | [] => 0
  | d :: r => uptoBulk d + uptoBulkAll r
def uptoBulkEntries {H : Type} : List (Lit × DataW H) → Nat
  | [] => 0
  | x :: r => uptoBulkEntry x + uptoBulkEntries r
def uptoBulkEntry {H : Type} : Lit × DataW H → Nat
  | (.string bytes, d) => bytes.length + uptoBulk d + 1
  | (_, d) => uptoBulk d + 1
 end
def uptoSmall : (H : Type) → List (DataW H) → Bool := fun _ ds => decide (uptoBulkAll ds ≤ 1048576)
def OpenSpec.upto (s : _root_.Go.ChangeSpec) : _root_.Go.OpenSpec := { _root_.Go.OpenSpec.ofChange s with cond := some uptoSmall }

/-- 'laws.FnTelling', WHERE WHAT IT READS IS OF BULK AT MOST 1048576: true; the input reads as it did. -/
def fnTellingUptoRow : OpenClaim := { program := "ytdndddlikdccgaa", sum := "5945714dddd31b6ce936d649dfa928af91ce9bb6e241a11e88a357c10d24e27a", func := "loop.example/ringorders/laws.FnTelling", spec := "fnTelling", unfollowed := true, recurses := true, plainKeys := false, apart := false, narrowed := true }
def FnTellingUptoSaid : Prop := fnTellingUptoRow.holds Try.pinned (OpenSpec.upto fnTellingSpec)

/-- 'laws.FnClose', WHERE WHAT IT READS IS OF BULK AT MOST 1048576: true; the input reads as it did. -/
def fnCloseUptoRow : OpenClaim := { program := "ytdndddlikdccgaa", sum := "5945714dddd31b6ce936d649dfa928af91ce9bb6e241a11e88a357c10d24e27a", func := "loop.example/ringorders/laws.FnClose", spec := "fnClose", unfollowed := true, recurses := true, plainKeys := false, apart := false, narrowed := true }
def FnCloseUptoSaid : Prop := fnCloseUptoRow.holds Try.pinned (OpenSpec.upto fnCloseSpec)

/-- 'laws.FnClash', WHERE WHAT IT READS IS OF BULK AT MOST 1048576: true; the input reads as it did. -/
def fnClashUptoRow : OpenClaim := { program := "ytdndddlikdccgaa", sum := "5945714dddd31b6ce936d649dfa928af91ce9bb6e241a11e88a357c10d24e27a", func := "loop.example/ringorders/laws.FnClash", spec := "fnClash", unfollowed := true, recurses := true, plainKeys := false, apart := false, narrowed := true }
def FnClashUptoSaid : Prop := fnClashUptoRow.holds Try.pinned (OpenSpec.upto fnClashSpec)

/-- 'laws.FnRings', WHERE WHAT IT READS IS OF BULK AT MOST 1048576: true; the input reads as it did. -/
def fnRingsUptoRow : OpenClaim := { program := "ytdndddlikdccgaa", sum := "5945714dddd31b6ce936d649dfa928af91ce9bb6e241a11e88a357c10d24e27a", func := "loop.example/ringorders/laws.FnRings", spec := "fnRings", unfollowed := true, recurses := true, plainKeys := false, apart := false, narrowed := true }
def FnRingsUptoSaid : Prop := fnRingsUptoRow.holds Try.pinned (OpenSpec.upto fnRingsSpec)

/-- 'laws.FnThreeFirst', WHERE WHAT IT READS IS OF BULK AT MOST 1048576: true; the input reads as it did. -/
def fnThreeFirstUptoRow : OpenClaim := { program := "ytdndddlikdccgaa", sum := "5945714dddd31b6ce936d649dfa928af91ce9bb6e241a11e88a357c10d24e27a", func := "loop.example/ringorders/laws.FnThreeFirst", spec := "fnThreeFirst", unfollowed := true, recurses := true, plainKeys := false, apart := false, narrowed := true }
def FnThreeFirstUptoSaid : Prop := fnThreeFirstUptoRow.holds Try.pinned (OpenSpec.upto fnThreeFirstSpec)

/-- 'laws.FnSure', WHERE WHAT IT READS IS OF BULK AT MOST 1048576: true; the input reads as it did. -/
def fnSureUptoRow : OpenClaim := { program := "ytdndddlikdccgaa", sum := "5945714dddd31b6ce936d649dfa928af91ce9bb6e241a11e88a357c10d24e27a", func := "loop.example/ringorders/laws.FnSure", spec := "fnSure", unfollowed := true, recurses := true, plainKeys := false, apart := false, narrowed := true }
def FnSureUptoSaid : Prop := fnSureUptoRow.holds Try.pinned (OpenSpec.upto fnSureSpec)

/-- 'laws.FnThreeMost', WHERE WHAT IT READS IS OF BULK AT MOST 1048576: true; the input reads as it did. -/
def fnThreeMostUptoRow : OpenClaim := { program := "ytdndddlikdccgaa", sum := "5945714dddd31b6ce936d649dfa928af91ce9bb6e241a11e88a357c10d24e27a", func := "loop.example/ringorders/laws.FnThreeMost", spec := "fnThreeMost", unfollowed := true, recurses := true, plainKeys := false, apart := false, narrowed := true }
def FnThreeMostUptoSaid : Prop := fnThreeMostUptoRow.holds Try.pinned (OpenSpec.upto fnThreeMostSpec)

/-- 'laws.FnMostRing', WHERE WHAT IT READS IS OF BULK AT MOST 1048576: true; the input reads as it did. -/
def fnMostRingUptoRow : OpenClaim := { program := "ytdndddlikdccgaa", sum := "5945714dddd31b6ce936d649dfa928af91ce9bb6e241a11e88a357c10d24e27a", func := "loop.example/ringorders/laws.FnMostRing", spec := "fnMostRing", unfollowed := true, recurses := true, plainKeys := false, apart := false, narrowed := true }
def FnMostRingUptoSaid : Prop := fnMostRingUptoRow.holds Try.pinned (OpenSpec.upto fnMostRingSpec)

/-- 'laws.FnThreeBack', WHERE WHAT IT READS IS OF BULK AT MOST 1048576: true; the input reads as it did. -/
def fnThreeBackUptoRow : OpenClaim := { program := "ytdndddlikdccgaa", sum := "5945714dddd31b6ce936d649dfa928af91ce9bb6e241a11e88a357c10d24e27a", func := "loop.example/ringorders/laws.FnThreeBack", spec := "fnThreeBack", unfollowed := true, recurses := true, plainKeys := false, apart := false, narrowed := true }
def FnThreeBackUptoSaid : Prop := fnThreeBackUptoRow.holds Try.pinned (OpenSpec.upto fnThreeBackSpec)

/-- 'laws.FnClashIs', WHERE WHAT IT READS IS OF BULK AT MOST 1048576: true; the input reads as it did. -/
def fnClashIsUptoRow : OpenClaim := { program := "ytdndddlikdccgaa", sum := "5945714dddd31b6ce936d649dfa928af91ce9bb6e241a11e88a357c10d24e27a", func := "loop.example/ringorders/laws.FnClashIs", spec := "fnClashIs", unfollowed := true, recurses := true, plainKeys := false, apart := false, narrowed := true }
def FnClashIsUptoSaid : Prop := fnClashIsUptoRow.holds Try.pinned (OpenSpec.upto fnClashIsSpec)

end Rows
end Go.Proofs.Ytdndddlikdccgaa
