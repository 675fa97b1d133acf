/- ThreeIn over rows at hand. -/
import Derived.Test.YtamnacgclhaggaaLawM
import Derived.Test.YtamnacgclhaggaaCC
import Derived.Test.YtamnacgclhaggaaThreeM
namespace Go.Proofs.Ytamnacgclhaggaa
open Go.ChangeShapes Go.WideShapes Go.ChangeAt Go.RowKit

theorem cM_ThreeIn {w : World} {A A' : Option Addr} {n c m d : Nat} {l t : List Int} (h : Rw w A n c l) (h' : Rw w A' m d t) : Calls Try.prog 16 #[.slice A n c, .slice A' m d] w fun e w' => e = .returned (.bool (inB l t)) ∧ Below w.heap.size w w' :=
  tiI_any A n c A' m d w.heap.size l t w h.rd h'.rd (Nat.le_refl _) h.big h'.big h.2.1 h.2.2.1 h'.2.1 h'.2.2.1
theorem three_in {l : List Int} {x y z : Int} (hr : Ring l) (hx : x ∈ l) (hy : y ∈ l) (hz : z ∈ l) (h1 : x ≠ y) (h2 : y ≠ z) (h3 : x ≠ z) : inB l [x, y, z] = has3 l [x, y, z] := by
  have ht : Thr (l.length : Int) [x, y, z] := (thr3 _ x y z).2 (by
    have a := hr.1.2.2.1 x hx
    have b := hr.1.2.2.1 y hy
    have c := hr.1.2.2.1 z hz
    exact ⟨by omega, by omega, by omega, h1, h3, h2⟩)
  unfold inB
  rw [ring_yes hr, (thr_yes ht).1]
  simp
end Go.Proofs.Ytamnacgclhaggaa
