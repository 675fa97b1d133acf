/-
  No cell of these rows narrows 'for every input' (looked for: loops, veiled, ifaces, maps, wideKeys, modest, calm, conditions, laid).
  DERIVED. THE GIVEN ROWS OF THIS SEAT. 10 by the template 'for every input the law returns true; each argument reads behind the call as it read before'; 0 by the template 'total and deterministic' (their statements: YtppchkabiehknaaTotals.lean).
  GIVEN WITH THE SEED: the statements are not yours to turn. If you find one false, say at which input.
  Laid BY PROGRAM, IN A SANDBOX (cutbox-rows.mjs): the forced cells as the released guide's own fill.sh prints them over the translation 7d3c443da9591291… (all of the seat's roots in one cut). By AI agents, Wed Nov 11 2026. No macro, syntax, notation, axiom, sorry.
-/
import Derived.Test.YtppchkabiehknaaChecked
import GoSem.Claim
import GoSem.ClaimJoined
import GoSem.ClaimMapViews
import Derived.JoinedTies
import Derived.KernelRfl
namespace Go.Proofs.Ytppchkabiehknaa
/- THE CELL 'sum', in the pinned program and in every row, IS THE sha256 OF THE DUMP (.gsa) THAT YtppchkabiehknaaProg.lean LOADS. Nothing in Lean hashes anything: it is a label: what it is worth is what the hold of that sum in a sandbox is worth. -/
noncomputable def Try.pinned : Pinned := { name := "ytppchkabiehknaa", sum := "7d3c443da959129111507297579cdb401b99ae7870b9058d30ac19f6c285531b", checked := Try.checked }
namespace Rows
def none {H : Type} : Left H := { results := [], args := [] }

/-- 'laws.FnWind': WHATEVER THE INPUT: true; the input reads as it did. -/
def fnWindSpec : ChangeSpec := { name := "fnWind", fn := fun _ => fun
  | [d] => { results := [.lit (.bool true)], args := [d] }
  | _ => none }
def fnWindRow : OpenClaim := { program := "ytppchkabiehknaa", sum := "7d3c443da959129111507297579cdb401b99ae7870b9058d30ac19f6c285531b", func := "loop.example/ringorders/laws.FnWind", spec := "fnWind", apart := false }
def FnWindSaid : Prop := fnWindRow.holds Try.pinned (OpenSpec.ofChange fnWindSpec)

/-- ITS FALSE NEIGHBOUR: 'it returns false'. Refute it at one input. -/
def fnWindWrong : ChangeSpec := { name := "fnWind", fn := fun _ => fun
  | [d] => { results := [.lit (.bool false)], args := [d] }
  | _ => none }
def FnWindWrongFalsely : Prop := fnWindRow.holds Try.pinned (OpenSpec.ofChange fnWindWrong)

/-- 'laws.FnWindBack': WHATEVER THE INPUT: true; the input reads as it did. -/
def fnWindBackSpec : ChangeSpec := { name := "fnWindBack", fn := fun _ => fun
  | [d] => { results := [.lit (.bool true)], args := [d] }
  | _ => none }
def fnWindBackRow : OpenClaim := { program := "ytppchkabiehknaa", sum := "7d3c443da959129111507297579cdb401b99ae7870b9058d30ac19f6c285531b", func := "loop.example/ringorders/laws.FnWindBack", spec := "fnWindBack", apart := false }
def FnWindBackSaid : Prop := fnWindBackRow.holds Try.pinned (OpenSpec.ofChange fnWindBackSpec)

/-- ITS FALSE NEIGHBOUR: 'it returns false'. Refute it at one input. -/
def fnWindBackWrong : ChangeSpec := { name := "fnWindBack", fn := fun _ => fun
  | [d] => { results := [.lit (.bool false)], args := [d] }
  | _ => none }
def FnWindBackWrongFalsely : Prop := fnWindBackRow.holds Try.pinned (OpenSpec.ofChange fnWindBackWrong)

/-- 'laws.FnExactPairSame': WHATEVER THE INPUT: true; the input reads as it did. -/
def fnExactPairSameSpec : ChangeSpec := { name := "fnExactPairSame", fn := fun _ => fun
  | [d1, d2] => { results := [.lit (.bool true)], args := [d1, d2] }
  | _ => none }
def fnExactPairSameRow : OpenClaim := { program := "ytppchkabiehknaa", sum := "7d3c443da959129111507297579cdb401b99ae7870b9058d30ac19f6c285531b", func := "loop.example/ringorders/laws.FnExactPairSame", spec := "fnExactPairSame", unfollowed := true, recurses := true, apart := false }
def FnExactPairSameSaid : Prop := fnExactPairSameRow.holds Try.pinned (OpenSpec.ofChange fnExactPairSameSpec)

/-- ITS FALSE NEIGHBOUR: 'it returns false'. Refute it at one input. -/
def fnExactPairSameWrong : ChangeSpec := { name := "fnExactPairSame", fn := fun _ => fun
  | [d1, d2] => { results := [.lit (.bool false)], args := [d1, d2] }
  | _ => none }
def FnExactPairSameWrongFalsely : Prop := fnExactPairSameRow.holds Try.pinned (OpenSpec.ofChange fnExactPairSameWrong)

/-- 'laws.FnExactWindOf': WHATEVER THE INPUT: true; the input reads as it did. -/
def fnExactWindOfSpec : ChangeSpec := { name := "fnExactWindOf", fn := fun _ => fun
  | [d1, d2] => { results := [.lit (.bool true)], args := [d1, d2] }
  | _ => none }
def fnExactWindOfRow : OpenClaim := { program := "ytppchkabiehknaa", sum := "7d3c443da959129111507297579cdb401b99ae7870b9058d30ac19f6c285531b", func := "loop.example/ringorders/laws.FnExactWindOf", spec := "fnExactWindOf", apart := false }
def FnExactWindOfSaid : Prop := fnExactWindOfRow.holds Try.pinned (OpenSpec.ofChange fnExactWindOfSpec)

/-- ITS FALSE NEIGHBOUR: 'it returns false'. Refute it at one input. -/
def fnExactWindOfWrong : ChangeSpec := { name := "fnExactWindOf", fn := fun _ => fun
  | [d1, d2] => { results := [.lit (.bool false)], args := [d1, d2] }
  | _ => none }
def FnExactWindOfWrongFalsely : Prop := fnExactWindOfRow.holds Try.pinned (OpenSpec.ofChange fnExactWindOfWrong)

/-- 'laws.FnExactWindFalls': WHATEVER THE INPUT: true; the input reads as it did. -/
def fnExactWindFallsSpec : ChangeSpec := { name := "fnExactWindFalls", fn := fun _ => fun
  | [d] => { results := [.lit (.bool true)], args := [d] }
  | _ => none }
def fnExactWindFallsRow : OpenClaim := { program := "ytppchkabiehknaa", sum := "7d3c443da959129111507297579cdb401b99ae7870b9058d30ac19f6c285531b", func := "loop.example/ringorders/laws.FnExactWindFalls", spec := "fnExactWindFalls", apart := false }
def FnExactWindFallsSaid : Prop := fnExactWindFallsRow.holds Try.pinned (OpenSpec.ofChange fnExactWindFallsSpec)

/-- ITS FALSE NEIGHBOUR: 'it returns false'. Refute it at one input. -/
def fnExactWindFallsWrong : ChangeSpec := { name := "fnExactWindFalls", fn := fun _ => fun
  | [d] => { results := [.lit (.bool false)], args := [d] }
  | _ => none }
def FnExactWindFallsWrongFalsely : Prop := fnExactWindFallsRow.holds Try.pinned (OpenSpec.ofChange fnExactWindFallsWrong)

/-- 'laws.FnExactWindCounts': WHATEVER THE INPUT: true; the input reads as it did. -/
def fnExactWindCountsSpec : ChangeSpec := { name := "fnExactWindCounts", fn := fun _ => fun
  | [d] => { results := [.lit (.bool true)], args := [d] }
  | _ => none }
def fnExactWindCountsRow : OpenClaim := { program := "ytppchkabiehknaa", sum := "7d3c443da959129111507297579cdb401b99ae7870b9058d30ac19f6c285531b", func := "loop.example/ringorders/laws.FnExactWindCounts", spec := "fnExactWindCounts", apart := false }
def FnExactWindCountsSaid : Prop := fnExactWindCountsRow.holds Try.pinned (OpenSpec.ofChange fnExactWindCountsSpec)

/-- ITS FALSE NEIGHBOUR: 'it returns false'. Refute it at one input. -/
def fnExactWindCountsWrong : ChangeSpec := { name := "fnExactWindCounts", fn := fun _ => fun
  | [d] => { results := [.lit (.bool false)], args := [d] }
  | _ => none }
def FnExactWindCountsWrongFalsely : Prop := fnExactWindCountsRow.holds Try.pinned (OpenSpec.ofChange fnExactWindCountsWrong)

/-- 'laws.FnExactWindSums': WHATEVER THE INPUT: true; the input reads as it did. -/
def fnExactWindSumsSpec : ChangeSpec := { name := "fnExactWindSums", fn := fun _ => fun
  | [d] => { results := [.lit (.bool true)], args := [d] }
  | _ => none }
def fnExactWindSumsRow : OpenClaim := { program := "ytppchkabiehknaa", sum := "7d3c443da959129111507297579cdb401b99ae7870b9058d30ac19f6c285531b", func := "loop.example/ringorders/laws.FnExactWindSums", spec := "fnExactWindSums", apart := false }
def FnExactWindSumsSaid : Prop := fnExactWindSumsRow.holds Try.pinned (OpenSpec.ofChange fnExactWindSumsSpec)

/-- ITS FALSE NEIGHBOUR: 'it returns false'. Refute it at one input. -/
def fnExactWindSumsWrong : ChangeSpec := { name := "fnExactWindSums", fn := fun _ => fun
  | [d] => { results := [.lit (.bool false)], args := [d] }
  | _ => none }
def FnExactWindSumsWrongFalsely : Prop := fnExactWindSumsRow.holds Try.pinned (OpenSpec.ofChange fnExactWindSumsWrong)

/-- 'laws.FnExactWindPath': WHATEVER THE INPUT: true; the input reads as it did. -/
def fnExactWindPathSpec : ChangeSpec := { name := "fnExactWindPath", fn := fun _ => fun
  | [d1, d2] => { results := [.lit (.bool true)], args := [d1, d2] }
  | _ => none }
def fnExactWindPathRow : OpenClaim := { program := "ytppchkabiehknaa", sum := "7d3c443da959129111507297579cdb401b99ae7870b9058d30ac19f6c285531b", func := "loop.example/ringorders/laws.FnExactWindPath", spec := "fnExactWindPath", apart := false }
def FnExactWindPathSaid : Prop := fnExactWindPathRow.holds Try.pinned (OpenSpec.ofChange fnExactWindPathSpec)

/-- ITS FALSE NEIGHBOUR: 'it returns false'. Refute it at one input. -/
def fnExactWindPathWrong : ChangeSpec := { name := "fnExactWindPath", fn := fun _ => fun
  | [d1, d2] => { results := [.lit (.bool false)], args := [d1, d2] }
  | _ => none }
def FnExactWindPathWrongFalsely : Prop := fnExactWindPathRow.holds Try.pinned (OpenSpec.ofChange fnExactWindPathWrong)

/-- 'laws.FnExactWindBetween': WHATEVER THE INPUT: true; the input reads as it did. -/
def fnExactWindBetweenSpec : ChangeSpec := { name := "fnExactWindBetween", fn := fun _ => fun
  | [d1, d2, d3] => { results := [.lit (.bool true)], args := [d1, d2, d3] }
  | _ => none }
def fnExactWindBetweenRow : OpenClaim := { program := "ytppchkabiehknaa", sum := "7d3c443da959129111507297579cdb401b99ae7870b9058d30ac19f6c285531b", func := "loop.example/ringorders/laws.FnExactWindBetween", spec := "fnExactWindBetween", apart := false }
def FnExactWindBetweenSaid : Prop := fnExactWindBetweenRow.holds Try.pinned (OpenSpec.ofChange fnExactWindBetweenSpec)

/-- ITS FALSE NEIGHBOUR: 'it returns false'. Refute it at one input. -/
def fnExactWindBetweenWrong : ChangeSpec := { name := "fnExactWindBetween", fn := fun _ => fun
  | [d1, d2, d3] => { results := [.lit (.bool false)], args := [d1, d2, d3] }
  | _ => none }
def FnExactWindBetweenWrongFalsely : Prop := fnExactWindBetweenRow.holds Try.pinned (OpenSpec.ofChange fnExactWindBetweenWrong)

/-- 'laws.FnExactWindMost': WHATEVER THE INPUT: true; the input reads as it did. -/
def fnExactWindMostSpec : ChangeSpec := { name := "fnExactWindMost", fn := fun _ => fun
  | [d1, d2] => { results := [.lit (.bool true)], args := [d1, d2] }
  | _ => none }
def fnExactWindMostRow : OpenClaim := { program := "ytppchkabiehknaa", sum := "7d3c443da959129111507297579cdb401b99ae7870b9058d30ac19f6c285531b", func := "loop.example/ringorders/laws.FnExactWindMost", spec := "fnExactWindMost", apart := false }
def FnExactWindMostSaid : Prop := fnExactWindMostRow.holds Try.pinned (OpenSpec.ofChange fnExactWindMostSpec)

/-- ITS FALSE NEIGHBOUR: 'it returns false'. Refute it at one input. -/
def fnExactWindMostWrong : ChangeSpec := { name := "fnExactWindMost", fn := fun _ => fun
  | [d1, d2] => { results := [.lit (.bool false)], args := [d1, d2] }
  | _ => none }
def FnExactWindMostWrongFalsely : Prop := fnExactWindMostRow.holds Try.pinned (OpenSpec.ofChange fnExactWindMostWrong)

/- THE SECOND FORM. 'bulk': how many values and letters a reading holds, each counted each time it is reached (what is shared counts as often as it is met; a slice's spare places count too). A statement '..UptoSaid' is the law's where the arguments, and the package variables that the reading takes, are together of bulk at most 1048576: NARROWER than '..Said'. Prove '..Said' where nothing that the law and all that it calls make is longer than what came in: it says more and counts as full. Else prove '..UptoSaid'. A law counts once. -/
mutual
def uptoBulk {H : Type} : DataW H → Nat
  | .lit (.string bytes) => bytes.length + 1
  | .lit _ => 1
  | .nil => 1
  | .ptr d => uptoBulk d + 1
  | .slice elems spare => uptoBulkAll elems + uptoBulkAll spare + 1
  | .agg parts => uptoBulkAll parts + 1
  | .iface _ d => uptoBulk d + 1
  | .map entries => uptoBulkEntries entries + 1
  | .held _ => 1
def uptoBulkAll {H : Type} : List (DataW H) → Nat
  | [] => 0
  | d :: r => uptoBulk d + uptoBulkAll r
def uptoBulkEntries {H : Type} : List (Lit × DataW H) → Nat
  | [] => 0
  | x :: r => uptoBulkEntry x + uptoBulkEntries r
def uptoBulkEntry {H : Type} : Lit × DataW H → Nat
  | (.string bytes, d) => bytes.length + uptoBulk d + 1
  | (_, d) => uptoBulk d + 1
 end
def uptoSmall : (H : Type) → List (DataW H) → Bool := fun _ ds => decide (uptoBulkAll ds ≤ 1048576)
def OpenSpec.upto (s : _root_.Go.ChangeSpec) : _root_.Go.OpenSpec := { _root_.Go.OpenSpec.ofChange s with cond := some uptoSmall }

/-- 'laws.FnWind', WHERE WHAT IT READS IS OF BULK AT MOST 1048576: true; the input reads as it did. -/
def fnWindUptoRow : OpenClaim := { program := "ytppchkabiehknaa", sum := "7d3c443da959129111507297579cdb401b99ae7870b9058d30ac19f6c285531b", func := "loop.example/ringorders/laws.FnWind", spec := "fnWind", apart := false, narrowed := true }
def FnWindUptoSaid : Prop := fnWindUptoRow.holds Try.pinned (OpenSpec.upto fnWindSpec)

/-- 'laws.FnWindBack', WHERE WHAT IT READS IS OF BULK AT MOST 1048576: true; the input reads as it did. -/
def fnWindBackUptoRow : OpenClaim := { program := "ytppchkabiehknaa", sum := "7d3c443da959129111507297579cdb401b99ae7870b9058d30ac19f6c285531b", func := "loop.example/ringorders/laws.FnWindBack", spec := "fnWindBack", apart := false, narrowed := true }
def FnWindBackUptoSaid : Prop := fnWindBackUptoRow.holds Try.pinned (OpenSpec.upto fnWindBackSpec)

/-- 'laws.FnExactPairSame', WHERE WHAT IT READS IS OF BULK AT MOST 1048576: true; the input reads as it did. -/
def fnExactPairSameUptoRow : OpenClaim := { program := "ytppchkabiehknaa", sum := "7d3c443da959129111507297579cdb401b99ae7870b9058d30ac19f6c285531b", func := "loop.example/ringorders/laws.FnExactPairSame", spec := "fnExactPairSame", unfollowed := true, recurses := true, apart := false, narrowed := true }
def FnExactPairSameUptoSaid : Prop := fnExactPairSameUptoRow.holds Try.pinned (OpenSpec.upto fnExactPairSameSpec)

/-- 'laws.FnExactWindOf', WHERE WHAT IT READS IS OF BULK AT MOST 1048576: true; the input reads as it did. -/
def fnExactWindOfUptoRow : OpenClaim := { program := "ytppchkabiehknaa", sum := "7d3c443da959129111507297579cdb401b99ae7870b9058d30ac19f6c285531b", func := "loop.example/ringorders/laws.FnExactWindOf", spec := "fnExactWindOf", apart := false, narrowed := true }
def FnExactWindOfUptoSaid : Prop := fnExactWindOfUptoRow.holds Try.pinned (OpenSpec.upto fnExactWindOfSpec)

/-- 'laws.FnExactWindFalls', WHERE WHAT IT READS IS OF BULK AT MOST 1048576: true; the input reads as it did. -/
def fnExactWindFallsUptoRow : OpenClaim := { program := "ytppchkabiehknaa", sum := "7d3c443da959129111507297579cdb401b99ae7870b9058d30ac19f6c285531b", func := "loop.example/ringorders/laws.FnExactWindFalls", spec := "fnExactWindFalls", apart := false, narrowed := true }
def FnExactWindFallsUptoSaid : Prop := fnExactWindFallsUptoRow.holds Try.pinned (OpenSpec.upto fnExactWindFallsSpec)

/-- 'laws.FnExactWindCounts', WHERE WHAT IT READS IS OF BULK AT MOST 1048576: true; the input reads as it did. -/
def fnExactWindCountsUptoRow : OpenClaim := { program := "ytppchkabiehknaa", sum := "7d3c443da959129111507297579cdb401b99ae7870b9058d30ac19f6c285531b", func := "loop.example/ringorders/laws.FnExactWindCounts", spec := "fnExactWindCounts", apart := false, narrowed := true }
def FnExactWindCountsUptoSaid : Prop := fnExactWindCountsUptoRow.holds Try.pinned (OpenSpec.upto fnExactWindCountsSpec)

/-- 'laws.FnExactWindSums', WHERE WHAT IT READS IS OF BULK AT MOST 1048576: true; the input reads as it did. -/
def fnExactWindSumsUptoRow : OpenClaim := { program := "ytppchkabiehknaa", sum := "7d3c443da959129111507297579cdb401b99ae7870b9058d30ac19f6c285531b", func := "loop.example/ringorders/laws.FnExactWindSums", spec := "fnExactWindSums", apart := false, narrowed := true }
def FnExactWindSumsUptoSaid : Prop := fnExactWindSumsUptoRow.holds Try.pinned (OpenSpec.upto fnExactWindSumsSpec)

/-- 'laws.FnExactWindPath', WHERE WHAT IT READS IS OF BULK AT MOST 1048576: true; the input reads as it did. -/
def fnExactWindPathUptoRow : OpenClaim := { program := "ytppchkabiehknaa", sum := "7d3c443da959129111507297579cdb401b99ae7870b9058d30ac19f6c285531b", func := "loop.example/ringorders/laws.FnExactWindPath", spec := "fnExactWindPath", apart := false, narrowed := true }
def FnExactWindPathUptoSaid : Prop := fnExactWindPathUptoRow.holds Try.pinned (OpenSpec.upto fnExactWindPathSpec)

/-- 'laws.FnExactWindBetween', WHERE WHAT IT READS IS OF BULK AT MOST 1048576: true; the input reads as it did. -/
def fnExactWindBetweenUptoRow : OpenClaim := { program := "ytppchkabiehknaa", sum := "7d3c443da959129111507297579cdb401b99ae7870b9058d30ac19f6c285531b", func := "loop.example/ringorders/laws.FnExactWindBetween", spec := "fnExactWindBetween", apart := false, narrowed := true }
def FnExactWindBetweenUptoSaid : Prop := fnExactWindBetweenUptoRow.holds Try.pinned (OpenSpec.upto fnExactWindBetweenSpec)

/-- 'laws.FnExactWindMost', WHERE WHAT IT READS IS OF BULK AT MOST 1048576: true; the input reads as it did. -/
def fnExactWindMostUptoRow : OpenClaim := { program := "ytppchkabiehknaa", sum := "7d3c443da959129111507297579cdb401b99ae7870b9058d30ac19f6c285531b", func := "loop.example/ringorders/laws.FnExactWindMost", spec := "fnExactWindMost", apart := false, narrowed := true }
def FnExactWindMostUptoSaid : Prop := fnExactWindMostUptoRow.holds Try.pinned (OpenSpec.upto fnExactWindMostSpec)

end Rows
end Go.Proofs.Ytppchkabiehknaa
