/- Fewest crossings: contracts over rows at hand. -/
import Derived.Test.YtamnacgclhaggaaLawCh
import Derived.Test.YtamnacgclhaggaaPqZ
namespace Go.Proofs.Ytamnacgclhaggaa
open Go.ChangeShapes Go.WideShapes Go.ChangeAt Go.RowKit

section
variable {w : World} {A' : Option Addr} {m d : Nat} {L : List (List Int)}
theorem cM_PairFewest (h' : RwS w A' m d L) (q : Int) : Calls Try.prog 37 #[.int .i64 q, .slice A' m d] w fun e w' => ∃ v, e = .returned (.tuple #[.int .i64 (feV q L), v, .bool (feB q L)]) ∧ NewR w' v (feL q L) ∧ Below w.heap.size w w' :=
  (feR_any A' m d w.heap.size q L w h'.rd (Nat.le_refl _) h'.1.2).mono fun _ _ ⟨v, e1, ho, hb⟩ => ⟨v, e1, ho.newR (feL_length q L), hb⟩
theorem cS_PairFewest (h' : RwS w A' m d L) (q : Int) : Calls Try.prog 39 #[.int .i64 q, .slice A' m d] w fun e w' => ∃ v, e = .returned (.tuple #[.int .i64 (feV q L), v, .bool (feB q L)]) ∧ NewG w' v (feL q L) ∧ Below w.heap.size w w' :=
  (feS_any A' m d w.heap.size q L w h'.rd (Nat.le_refl _) h'.1.2).mono fun _ _ ⟨v, e1, ho, hb⟩ => ⟨v, e1, ho.newG (feL_length q L), hb⟩
end
end Go.Proofs.Ytamnacgclhaggaa
