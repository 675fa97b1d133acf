/- The contracts of checked proofs of clashes over slices of rows at hand. -/
import Derived.Test.YtdndddlikdccgaaRwS
import Derived.Test.YtdndddlikdccgaaPdJ
namespace Go.Proofs.Ytdndddlikdccgaa
open Go.ChangeShapes Go.WideShapes Go.ChangeAt Go.RowKit

section
variable {w : World} {A : Option Addr} {n c : Nat} {L : List (List Int)} (h : RwS w A n c L) (q : Int) (s : ByteArray)
include h
theorem cI_ProofClashIs (hs : s.size ≤ 1048576) : Calls Try.prog 45 #[.int .i64 q, .slice A n c, .string s] w fun e w' => e = .returned (.bool (pcB q L s)) ∧ Below w.heap.size w w' := pcI_any A n c w.heap.size q L s w h.rd (Nat.le_refl _) h.1.2 hs
theorem cS_ProofClashIs (hs : s.size ≤ 1048576) : Calls Try.prog 46 #[.int .i64 q, .slice A n c, .string s] w fun e w' => e = .returned (.bool (pcB q L s)) ∧ Below w.heap.size w w' := pcS_any A n c w.heap.size q L s w h.rd (Nat.le_refl _) h.1.2 hs
end
section
variable {w : World} {A : Option Addr} {n c : Nat} {L : List (List Int)} (h : RwS w A n c L) (q : Int)
include h
theorem cI_ThreeRings : Calls Try.prog 23 #[.int .i64 q, .slice A n c] w fun e w' => e = .returned (.tuple #[.int .i64 (rgR q L), .bool (tel q L)]) ∧ Below w.heap.size w w' := trI_any A n c w.heap.size q L w h.rd (Nat.le_refl _) h.1.2
end
end Go.Proofs.Ytdndddlikdccgaa
