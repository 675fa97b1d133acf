/- The contracts of proofs of clashes over slices of rows at hand. -/
import Derived.Test.YthefnanhikjddaaDoorRwS
import Derived.Test.YthefnanhikjddaaDoorClS
import Derived.Test.YthefnanhikjddaaDoorClZ
import Derived.Test.YthefnanhikjddaaDoorTabS
namespace Go.Proofs.YthefnanhikjddaaDoor
open Go.ChangeShapes Go.WideShapes Go.ChangeAt Go.RowKit

theorem ct_size {q : Int} {L : List (List Int)} : (ctT q L).size ≤ 11 := by
  unfold ctT
  cases h : ctF q L with
  | none => decide
  | some t =>
    show (tld clW t).size ≤ 11
    rw [tld_size]
    have : t.length = 3 := by
      unfold ctF at h
      split at h
      · have hm := List.mem_of_find?_eq_some h
        exact ((every_thr _ t).1 (List.mem_filter.1 hm).1).1
      · cases h
    rw [this]
    decide
section
variable {w : World} {A : Option Addr} {n c : Nat} {L : List (List Int)} (h : RwS w A n c L) (q : Int)
include h
theorem cS_ProofClash : Calls Tryd.prog 8 #[.int .i64 q, .slice A n c] w fun e w' => e = .returned (.tuple #[.string (ctT q L), .bool (ctF q L).isSome]) ∧ Below w.heap.size w w' := ctS_any A n c w.heap.size q L w h.rd (Nat.le_refl _) h.1.2
theorem cI_ProofClash (ht : Tab w) : Calls Tryd.prog 7 #[.int .i64 q, .slice A n c] w fun e w' => e = .returned (.tuple #[.string (ctT q L), .bool (ctF q L).isSome]) ∧ Below w.heap.size w w' := ctI_law A n c w.heap.size q L w h.rd (Nat.le_refl _) h.1.2 ht
end
end Go.Proofs.YthefnanhikjddaaDoor
