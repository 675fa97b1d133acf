/-
  NARROWER THAN 'FOR EVERY INPUT', by the rows' own cells (each row's printed sentence says how): FnExactPatternAt: laid · FnExactPatternMany: laid · FnExactPatternFirst: laid · FnExactPatternOf: laid · FnExactPatternFree: laid · FnExactPatternAll: laid · FnExactPatternBack: laid.
  DERIVED. THE GIVEN ROWS OF THIS SEAT. 7 by the template 'for every input the law returns true; each argument reads behind the call as it read before'; 0 by the template 'total and deterministic' (their statements: YtkahnepkafjkpaaDoorTotals.lean).
  GIVEN WITH THE SEED: the statements are not yours to turn. If you find one false, say at which input.
  Laid BY PROGRAM, IN A SANDBOX (cutbox-rows.mjs): the forced cells as the released guide's own fill.sh prints them over the translation bdb74ab0fd1e0fef… (all of the seat's roots in one cut). By AI agents, Wed Nov 11 2026. No macro, syntax, notation, axiom, sorry.
-/
import Derived.Test.YtkahnepkafjkpaaDoorChecked
import GoSem.Claim
import GoSem.ClaimJoined
import GoSem.ClaimMapViews
import Derived.JoinedTies
import Derived.KernelRfl
namespace Go.Proofs.YtkahnepkafjkpaaDoor
/- THE CELL 'sum', in the pinned program and in every row, IS THE sha256 OF THE DUMP (.gsa) THAT YtkahnepkafjkpaaDoorProg.lean LOADS. Nothing in Lean hashes anything: it is a label: what it is worth is what the hold of that sum in a sandbox is worth. -/
noncomputable def Tryd.pinned : Pinned := { name := "ytkahnepkafjkpaadoor", sum := "bdb74ab0fd1e0fefca6fd959cf9cf9ed36eb649e3e3d0add522701cf00da6627", checked := Tryd.checked }
namespace Rows
def none {H : Type} : Left H := { results := [], args := [] }

/- WHAT THE LISTED PACKAGE-LEVEL VARIABLES READ AS WHEN THE CALL BEGINS. Each datum BY PROGRAM (the guide's laid-datum.mjs) off the statement by which the dump's own 'gosem.cut.vars' lays the variable. In a bare row this is a premise. The card (YtkahnepkafjkpaaDoorCards.lean) ties it to the program's text. -/
def laid_math_bits_deBruijn32tab {H : Type} : DataW H := .agg [.lit (.int .u8 0), .lit (.int .u8 1), .lit (.int .u8 28), .lit (.int .u8 2), .lit (.int .u8 29), .lit (.int .u8 14), .lit (.int .u8 24), .lit (.int .u8 3), .lit (.int .u8 30), .lit (.int .u8 22), .lit (.int .u8 20), .lit (.int .u8 15), .lit (.int .u8 25), .lit (.int .u8 17), .lit (.int .u8 4), .lit (.int .u8 8), .lit (.int .u8 31), .lit (.int .u8 27), .lit (.int .u8 13), .lit (.int .u8 23), .lit (.int .u8 21), .lit (.int .u8 19), .lit (.int .u8 16), .lit (.int .u8 7), .lit (.int .u8 26), .lit (.int .u8 12), .lit (.int .u8 18), .lit (.int .u8 6), .lit (.int .u8 11), .lit (.int .u8 5), .lit (.int .u8 10), .lit (.int .u8 9)]
def laid_math_bits_deBruijn64tab {H : Type} : DataW H := .agg [.lit (.int .u8 0), .lit (.int .u8 1), .lit (.int .u8 56), .lit (.int .u8 2), .lit (.int .u8 57), .lit (.int .u8 49), .lit (.int .u8 28), .lit (.int .u8 3), .lit (.int .u8 61), .lit (.int .u8 58), .lit (.int .u8 42), .lit (.int .u8 50), .lit (.int .u8 38), .lit (.int .u8 29), .lit (.int .u8 17), .lit (.int .u8 4), .lit (.int .u8 62), .lit (.int .u8 47), .lit (.int .u8 59), .lit (.int .u8 36), .lit (.int .u8 45), .lit (.int .u8 43), .lit (.int .u8 51), .lit (.int .u8 22), .lit (.int .u8 53), .lit (.int .u8 39), .lit (.int .u8 33), .lit (.int .u8 30), .lit (.int .u8 24), .lit (.int .u8 18), .lit (.int .u8 12), .lit (.int .u8 5), .lit (.int .u8 63), .lit (.int .u8 55), .lit (.int .u8 48), .lit (.int .u8 27), .lit (.int .u8 60), .lit (.int .u8 41), .lit (.int .u8 37), .lit (.int .u8 16), .lit (.int .u8 46), .lit (.int .u8 35), .lit (.int .u8 44), .lit (.int .u8 21), .lit (.int .u8 52), .lit (.int .u8 32), .lit (.int .u8 23), .lit (.int .u8 11), .lit (.int .u8 54), .lit (.int .u8 26), .lit (.int .u8 40), .lit (.int .u8 15), .lit (.int .u8 34), .lit (.int .u8 20), .lit (.int .u8 31), .lit (.int .u8 10), .lit (.int .u8 25), .lit (.int .u8 14), .lit (.int .u8 19), .lit (.int .u8 9), .lit (.int .u8 13), .lit (.int .u8 8), .lit (.int .u8 7), .lit (.int .u8 6)]

/-- 'laws.FnExactPatternAt': WHATEVER THE INPUT: true; the input reads as it did. -/
def fnExactPatternAtSpec : ChangeSpec := { name := "fnExactPatternAt", fn := fun _ => fun
  | [d1, d2, d3] => { results := [.lit (.bool true)], args := [d1, d2, d3] }
  | _ => none }
def fnExactPatternAtRow : OpenClaim := { program := "ytkahnepkafjkpaadoor", sum := "bdb74ab0fd1e0fefca6fd959cf9cf9ed36eb649e3e3d0add522701cf00da6627", func := "loop.example/ringorders/laws.FnExactPatternAt", spec := "fnExactPatternAt", unfollowed := true, recurses := true, named := ["math/bits.deBruijn32tab", "math/bits.deBruijn64tab"], apart := false, laid := [("math/bits.deBruijn32tab", laid_math_bits_deBruijn32tab), ("math/bits.deBruijn64tab", laid_math_bits_deBruijn64tab)] }
def FnExactPatternAtSaid : Prop := fnExactPatternAtRow.holds Tryd.pinned (OpenSpec.ofChange fnExactPatternAtSpec)

/-- ITS FALSE NEIGHBOUR: 'it returns false'. Refute it at one input. -/
def fnExactPatternAtWrong : ChangeSpec := { name := "fnExactPatternAt", fn := fun _ => fun
  | [d1, d2, d3] => { results := [.lit (.bool false)], args := [d1, d2, d3] }
  | _ => none }
def FnExactPatternAtWrongFalsely : Prop := fnExactPatternAtRow.holds Tryd.pinned (OpenSpec.ofChange fnExactPatternAtWrong)

/-- 'laws.FnExactPatternMany': WHATEVER THE INPUT: true; the input reads as it did. -/
def fnExactPatternManySpec : ChangeSpec := { name := "fnExactPatternMany", fn := fun _ => fun
  | [d1, d2] => { results := [.lit (.bool true)], args := [d1, d2] }
  | _ => none }
def fnExactPatternManyRow : OpenClaim := { program := "ytkahnepkafjkpaadoor", sum := "bdb74ab0fd1e0fefca6fd959cf9cf9ed36eb649e3e3d0add522701cf00da6627", func := "loop.example/ringorders/laws.FnExactPatternMany", spec := "fnExactPatternMany", unfollowed := true, recurses := true, named := ["math/bits.deBruijn32tab", "math/bits.deBruijn64tab"], apart := false, laid := [("math/bits.deBruijn32tab", laid_math_bits_deBruijn32tab), ("math/bits.deBruijn64tab", laid_math_bits_deBruijn64tab)] }
def FnExactPatternManySaid : Prop := fnExactPatternManyRow.holds Tryd.pinned (OpenSpec.ofChange fnExactPatternManySpec)

/-- ITS FALSE NEIGHBOUR: 'it returns false'. Refute it at one input. -/
def fnExactPatternManyWrong : ChangeSpec := { name := "fnExactPatternMany", fn := fun _ => fun
  | [d1, d2] => { results := [.lit (.bool false)], args := [d1, d2] }
  | _ => none }
def FnExactPatternManyWrongFalsely : Prop := fnExactPatternManyRow.holds Tryd.pinned (OpenSpec.ofChange fnExactPatternManyWrong)

/-- 'laws.FnExactPatternFirst': WHATEVER THE INPUT: true; the input reads as it did. -/
def fnExactPatternFirstSpec : ChangeSpec := { name := "fnExactPatternFirst", fn := fun _ => fun
  | [d1, d2] => { results := [.lit (.bool true)], args := [d1, d2] }
  | _ => none }
def fnExactPatternFirstRow : OpenClaim := { program := "ytkahnepkafjkpaadoor", sum := "bdb74ab0fd1e0fefca6fd959cf9cf9ed36eb649e3e3d0add522701cf00da6627", func := "loop.example/ringorders/laws.FnExactPatternFirst", spec := "fnExactPatternFirst", unfollowed := true, recurses := true, named := ["math/bits.deBruijn32tab", "math/bits.deBruijn64tab"], apart := false, laid := [("math/bits.deBruijn32tab", laid_math_bits_deBruijn32tab), ("math/bits.deBruijn64tab", laid_math_bits_deBruijn64tab)] }
def FnExactPatternFirstSaid : Prop := fnExactPatternFirstRow.holds Tryd.pinned (OpenSpec.ofChange fnExactPatternFirstSpec)

/-- ITS FALSE NEIGHBOUR: 'it returns false'. Refute it at one input. -/
def fnExactPatternFirstWrong : ChangeSpec := { name := "fnExactPatternFirst", fn := fun _ => fun
  | [d1, d2] => { results := [.lit (.bool false)], args := [d1, d2] }
  | _ => none }
def FnExactPatternFirstWrongFalsely : Prop := fnExactPatternFirstRow.holds Tryd.pinned (OpenSpec.ofChange fnExactPatternFirstWrong)

/-- 'laws.FnExactPatternOf': WHATEVER THE INPUT: true; the input reads as it did. -/
def fnExactPatternOfSpec : ChangeSpec := { name := "fnExactPatternOf", fn := fun _ => fun
  | [d1, d2] => { results := [.lit (.bool true)], args := [d1, d2] }
  | _ => none }
def fnExactPatternOfRow : OpenClaim := { program := "ytkahnepkafjkpaadoor", sum := "bdb74ab0fd1e0fefca6fd959cf9cf9ed36eb649e3e3d0add522701cf00da6627", func := "loop.example/ringorders/laws.FnExactPatternOf", spec := "fnExactPatternOf", unfollowed := true, recurses := true, named := ["math/bits.deBruijn32tab", "math/bits.deBruijn64tab"], apart := false, laid := [("math/bits.deBruijn32tab", laid_math_bits_deBruijn32tab), ("math/bits.deBruijn64tab", laid_math_bits_deBruijn64tab)] }
def FnExactPatternOfSaid : Prop := fnExactPatternOfRow.holds Tryd.pinned (OpenSpec.ofChange fnExactPatternOfSpec)

/-- ITS FALSE NEIGHBOUR: 'it returns false'. Refute it at one input. -/
def fnExactPatternOfWrong : ChangeSpec := { name := "fnExactPatternOf", fn := fun _ => fun
  | [d1, d2] => { results := [.lit (.bool false)], args := [d1, d2] }
  | _ => none }
def FnExactPatternOfWrongFalsely : Prop := fnExactPatternOfRow.holds Tryd.pinned (OpenSpec.ofChange fnExactPatternOfWrong)

/-- 'laws.FnExactPatternFree': WHATEVER THE INPUT: true; the input reads as it did. -/
def fnExactPatternFreeSpec : ChangeSpec := { name := "fnExactPatternFree", fn := fun _ => fun
  | [d1, d2] => { results := [.lit (.bool true)], args := [d1, d2] }
  | _ => none }
def fnExactPatternFreeRow : OpenClaim := { program := "ytkahnepkafjkpaadoor", sum := "bdb74ab0fd1e0fefca6fd959cf9cf9ed36eb649e3e3d0add522701cf00da6627", func := "loop.example/ringorders/laws.FnExactPatternFree", spec := "fnExactPatternFree", unfollowed := true, recurses := true, named := ["math/bits.deBruijn32tab", "math/bits.deBruijn64tab"], apart := false, laid := [("math/bits.deBruijn32tab", laid_math_bits_deBruijn32tab), ("math/bits.deBruijn64tab", laid_math_bits_deBruijn64tab)] }
def FnExactPatternFreeSaid : Prop := fnExactPatternFreeRow.holds Tryd.pinned (OpenSpec.ofChange fnExactPatternFreeSpec)

/-- ITS FALSE NEIGHBOUR: 'it returns false'. Refute it at one input. -/
def fnExactPatternFreeWrong : ChangeSpec := { name := "fnExactPatternFree", fn := fun _ => fun
  | [d1, d2] => { results := [.lit (.bool false)], args := [d1, d2] }
  | _ => none }
def FnExactPatternFreeWrongFalsely : Prop := fnExactPatternFreeRow.holds Tryd.pinned (OpenSpec.ofChange fnExactPatternFreeWrong)

/-- 'laws.FnExactPatternAll': WHATEVER THE INPUT: true; the input reads as it did. -/
def fnExactPatternAllSpec : ChangeSpec := { name := "fnExactPatternAll", fn := fun _ => fun
  | [d] => { results := [.lit (.bool true)], args := [d] }
  | _ => none }
def fnExactPatternAllRow : OpenClaim := { program := "ytkahnepkafjkpaadoor", sum := "bdb74ab0fd1e0fefca6fd959cf9cf9ed36eb649e3e3d0add522701cf00da6627", func := "loop.example/ringorders/laws.FnExactPatternAll", spec := "fnExactPatternAll", unfollowed := true, recurses := true, named := ["math/bits.deBruijn32tab", "math/bits.deBruijn64tab"], apart := false, laid := [("math/bits.deBruijn32tab", laid_math_bits_deBruijn32tab), ("math/bits.deBruijn64tab", laid_math_bits_deBruijn64tab)] }
def FnExactPatternAllSaid : Prop := fnExactPatternAllRow.holds Tryd.pinned (OpenSpec.ofChange fnExactPatternAllSpec)

/-- ITS FALSE NEIGHBOUR: 'it returns false'. Refute it at one input. -/
def fnExactPatternAllWrong : ChangeSpec := { name := "fnExactPatternAll", fn := fun _ => fun
  | [d] => { results := [.lit (.bool false)], args := [d] }
  | _ => none }
def FnExactPatternAllWrongFalsely : Prop := fnExactPatternAllRow.holds Tryd.pinned (OpenSpec.ofChange fnExactPatternAllWrong)

/-- 'laws.FnExactPatternBack': WHATEVER THE INPUT: true; the input reads as it did. -/
def fnExactPatternBackSpec : ChangeSpec := { name := "fnExactPatternBack", fn := fun _ => fun
  | [d1, d2] => { results := [.lit (.bool true)], args := [d1, d2] }
  | _ => none }
def fnExactPatternBackRow : OpenClaim := { program := "ytkahnepkafjkpaadoor", sum := "bdb74ab0fd1e0fefca6fd959cf9cf9ed36eb649e3e3d0add522701cf00da6627", func := "loop.example/ringorders/laws.FnExactPatternBack", spec := "fnExactPatternBack", unfollowed := true, recurses := true, named := ["math/bits.deBruijn32tab", "math/bits.deBruijn64tab"], apart := false, laid := [("math/bits.deBruijn32tab", laid_math_bits_deBruijn32tab), ("math/bits.deBruijn64tab", laid_math_bits_deBruijn64tab)] }
def FnExactPatternBackSaid : Prop := fnExactPatternBackRow.holds Tryd.pinned (OpenSpec.ofChange fnExactPatternBackSpec)

/-- ITS FALSE NEIGHBOUR: 'it returns false'. Refute it at one input. -/
def fnExactPatternBackWrong : ChangeSpec := { name := "fnExactPatternBack", fn := fun _ => fun
  | [d1, d2] => { results := [.lit (.bool false)], args := [d1, d2] }
  | _ => none }
def FnExactPatternBackWrongFalsely : Prop := fnExactPatternBackRow.holds Tryd.pinned (OpenSpec.ofChange fnExactPatternBackWrong)

/- THE SECOND FORM. 'bulk': how many values and letters a reading holds, each counted each time it is reached (what is shared counts as often as it is met; a slice's spare places count too). A statement '..UptoSaid' is the law's where the arguments, and the package variables that the reading takes, are together of bulk at most 1048576: NARROWER than '..Said'. Prove '..Said' where nothing that the law and all that it calls make is longer than what came in: it says more and counts as full. Else prove '..UptoSaid'. A law counts once. -/
mutual
def uptoBulk {H : Type} : DataW H → Nat
  | .lit (.string bytes) => bytes.length + 1
  | .lit _ => 1
  | .nil => 1
  | .ptr d => uptoBulk d + 1
  | .slice elems spare => uptoBulkAll elems + uptoBulkAll spare + 1
  | .agg parts => uptoBulkAll parts + 1
  | .iface _ d => uptoBulk d + 1
  | .map entries => uptoBulkEntries entries + 1
  | .held _ => 1
def uptoBulkAll {H : Type} : List (DataW H) → Nat
  | [] => 0
  | d :: r => uptoBulk d + uptoBulkAll r
def uptoBulkEntries {H : Type} : List (Lit × DataW H) → Nat
  | [] => 0
  | x :: r => uptoBulkEntry x + uptoBulkEntries r
def uptoBulkEntry {H : Type} : Lit × DataW H → Nat
  | (.string bytes, d) => bytes.length + uptoBulk d + 1
  | (_, d) => uptoBulk d + 1
 end
def uptoSmall : (H : Type) → List (DataW H) → Bool := fun _ ds => decide (uptoBulkAll ds ≤ 1048576)
def OpenSpec.upto (s : _root_.Go.ChangeSpec) : _root_.Go.OpenSpec := { _root_.Go.OpenSpec.ofChange s with cond := some uptoSmall }

/-- 'laws.FnExactPatternAt', WHERE WHAT IT READS IS OF BULK AT MOST 1048576: true; the input reads as it did. -/
def fnExactPatternAtUptoRow : OpenClaim := { program := "ytkahnepkafjkpaadoor", sum := "bdb74ab0fd1e0fefca6fd959cf9cf9ed36eb649e3e3d0add522701cf00da6627", func := "loop.example/ringorders/laws.FnExactPatternAt", spec := "fnExactPatternAt", unfollowed := true, recurses := true, named := ["math/bits.deBruijn32tab", "math/bits.deBruijn64tab"], apart := false, laid := [("math/bits.deBruijn32tab", laid_math_bits_deBruijn32tab), ("math/bits.deBruijn64tab", laid_math_bits_deBruijn64tab)], narrowed := true }
def FnExactPatternAtUptoSaid : Prop := fnExactPatternAtUptoRow.holds Tryd.pinned (OpenSpec.upto fnExactPatternAtSpec)

/-- 'laws.FnExactPatternMany', WHERE WHAT IT READS IS OF BULK AT MOST 1048576: true; the input reads as it did. -/
def fnExactPatternManyUptoRow : OpenClaim := { program := "ytkahnepkafjkpaadoor", sum := "bdb74ab0fd1e0fefca6fd959cf9cf9ed36eb649e3e3d0add522701cf00da6627", func := "loop.example/ringorders/laws.FnExactPatternMany", spec := "fnExactPatternMany", unfollowed := true, recurses := true, named := ["math/bits.deBruijn32tab", "math/bits.deBruijn64tab"], apart := false, laid := [("math/bits.deBruijn32tab", laid_math_bits_deBruijn32tab), ("math/bits.deBruijn64tab", laid_math_bits_deBruijn64tab)], narrowed := true }
def FnExactPatternManyUptoSaid : Prop := fnExactPatternManyUptoRow.holds Tryd.pinned (OpenSpec.upto fnExactPatternManySpec)

/-- 'laws.FnExactPatternFirst', WHERE WHAT IT READS IS OF BULK AT MOST 1048576: true; the input reads as it did. -/
def fnExactPatternFirstUptoRow : OpenClaim := { program := "ytkahnepkafjkpaadoor", sum := "bdb74ab0fd1e0fefca6fd959cf9cf9ed36eb649e3e3d0add522701cf00da6627", func := "loop.example/ringorders/laws.FnExactPatternFirst", spec := "fnExactPatternFirst", unfollowed := true, recurses := true, named := ["math/bits.deBruijn32tab", "math/bits.deBruijn64tab"], apart := false, laid := [("math/bits.deBruijn32tab", laid_math_bits_deBruijn32tab), ("math/bits.deBruijn64tab", laid_math_bits_deBruijn64tab)], narrowed := true }
def FnExactPatternFirstUptoSaid : Prop := fnExactPatternFirstUptoRow.holds Tryd.pinned (OpenSpec.upto fnExactPatternFirstSpec)

/-- 'laws.FnExactPatternOf', WHERE WHAT IT READS IS OF BULK AT MOST 1048576: true; the input reads as it did. -/
def fnExactPatternOfUptoRow : OpenClaim := { program := "ytkahnepkafjkpaadoor", sum := "bdb74ab0fd1e0fefca6fd959cf9cf9ed36eb649e3e3d0add522701cf00da6627", func := "loop.example/ringorders/laws.FnExactPatternOf", spec := "fnExactPatternOf", unfollowed := true, recurses := true, named := ["math/bits.deBruijn32tab", "math/bits.deBruijn64tab"], apart := false, laid := [("math/bits.deBruijn32tab", laid_math_bits_deBruijn32tab), ("math/bits.deBruijn64tab", laid_math_bits_deBruijn64tab)], narrowed := true }
def FnExactPatternOfUptoSaid : Prop := fnExactPatternOfUptoRow.holds Tryd.pinned (OpenSpec.upto fnExactPatternOfSpec)

/-- 'laws.FnExactPatternFree', WHERE WHAT IT READS IS OF BULK AT MOST 1048576: true; the input reads as it did. -/
def fnExactPatternFreeUptoRow : OpenClaim := { program := "ytkahnepkafjkpaadoor", sum := "bdb74ab0fd1e0fefca6fd959cf9cf9ed36eb649e3e3d0add522701cf00da6627", func := "loop.example/ringorders/laws.FnExactPatternFree", spec := "fnExactPatternFree", unfollowed := true, recurses := true, named := ["math/bits.deBruijn32tab", "math/bits.deBruijn64tab"], apart := false, laid := [("math/bits.deBruijn32tab", laid_math_bits_deBruijn32tab), ("math/bits.deBruijn64tab", laid_math_bits_deBruijn64tab)], narrowed := true }
def FnExactPatternFreeUptoSaid : Prop := fnExactPatternFreeUptoRow.holds Tryd.pinned (OpenSpec.upto fnExactPatternFreeSpec)

/-- 'laws.FnExactPatternAll', WHERE WHAT IT READS IS OF BULK AT MOST 1048576: true; the input reads as it did. -/
def fnExactPatternAllUptoRow : OpenClaim := { program := "ytkahnepkafjkpaadoor", sum := "bdb74ab0fd1e0fefca6fd959cf9cf9ed36eb649e3e3d0add522701cf00da6627", func := "loop.example/ringorders/laws.FnExactPatternAll", spec := "fnExactPatternAll", unfollowed := true, recurses := true, named := ["math/bits.deBruijn32tab", "math/bits.deBruijn64tab"], apart := false, laid := [("math/bits.deBruijn32tab", laid_math_bits_deBruijn32tab), ("math/bits.deBruijn64tab", laid_math_bits_deBruijn64tab)], narrowed := true }
def FnExactPatternAllUptoSaid : Prop := fnExactPatternAllUptoRow.holds Tryd.pinned (OpenSpec.upto fnExactPatternAllSpec)

/-- 'laws.FnExactPatternBack', WHERE WHAT IT READS IS OF BULK AT MOST 1048576: true; the input reads as it did. -/
def fnExactPatternBackUptoRow : OpenClaim := { program := "ytkahnepkafjkpaadoor", sum := "bdb74ab0fd1e0fefca6fd959cf9cf9ed36eb649e3e3d0add522701cf00da6627", func := "loop.example/ringorders/laws.FnExactPatternBack", spec := "fnExactPatternBack", unfollowed := true, recurses := true, named := ["math/bits.deBruijn32tab", "math/bits.deBruijn64tab"], apart := false, laid := [("math/bits.deBruijn32tab", laid_math_bits_deBruijn32tab), ("math/bits.deBruijn64tab", laid_math_bits_deBruijn64tab)], narrowed := true }
def FnExactPatternBackUptoSaid : Prop := fnExactPatternBackUptoRow.holds Tryd.pinned (OpenSpec.upto fnExactPatternBackSpec)

end Rows
end Go.Proofs.YtkahnepkafjkpaaDoor
