/- Schemes over slices of rows at hand. -/
import Derived.Test.YtamnacgclhaggaaRwT
import Derived.Test.YtamnacgclhaggaaSch
namespace Go.Proofs.Ytamnacgclhaggaa
open Go.ChangeShapes Go.WideShapes Go.ChangeAt Go.RowKit

section
variable {w : World} {A : Option Addr} {n c : Nat} {L : List (List Int)} (h : RwS w A n c L) (q : Int)
include h
theorem cI_PairScheme : Calls Try.prog 26 #[.int .i64 q, .slice A n c] w fun e w' => e = .returned (.bool (schB q L)) ∧ Below w.heap.size w w' := psI_any A n c w.heap.size q L w h.rd (Nat.le_refl _) h.1.2
theorem cS_PairScheme : Calls Try.prog 27 #[.int .i64 q, .slice A n c] w fun e w' => e = .returned (.bool (schB q L)) ∧ Below w.heap.size w w' := psS_any A n c w.heap.size q L w h.rd (Nat.le_refl _) h.1.2
end
theorem sch_tail {q : Int} {L : List (List Int)} (h : schB q L = true) : schB q L.tail = true := by
  obtain ⟨h4, h6, h20, hf⟩ := sch_yes h
  have hall : allB (four q) L.tail = true := by
    unfold schB at h
    simp only [Bool.and_eq_true] at h
    have ha := h.2.2
    unfold allB at ha ⊢
    rw [List.all_eq_true] at ha ⊢
    exact fun t ht => ha t (List.mem_of_mem_tail ht)
  unfold schB
  rw [hall]
  simp
  omega
end Go.Proofs.Ytamnacgclhaggaa
