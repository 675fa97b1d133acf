/- ProofClashIs of the model. -/
import Derived.Test.YthefnanhikjddaaDoorPdS
import Derived.Test.YthefnanhikjddaaDoorPdI
import Derived.Test.YthefnanhikjddaaDoorCodS
import Derived.BigQuiet
import Derived.Deep.QuietTactic
namespace Go.Proofs.YthefnanhikjddaaDoor
open Go.ChangeShapes Go.WideShapes Go.ChangeAt Go.RowKit

set_option maxRecDepth 10000 in
set_option maxHeartbeats 1000000 in
theorem clash10_any (g : Nat) (K : List (List Int)) (A : Option Addr) (c : Nat) (a b d : Nat) (w : World) (hm : Mk w g K) (h : Rd w w.heap.size A 3 [(a : Int), (b : Int), (d : Int)]) (ha : a < 6) (hb : b < 6) (hd : d < 6) :
    Calls Tryd.prog 27 #[.slice (some ⟨g, 0, none⟩) 216 216, .slice A 3 c] w fun e w' => e = .returned (.bool (decide ([(a : Int), (b : Int), (d : Int)] ∈ K) && decide ([(a : Int), (d : Int), (b : Int)] ∈ K))) ∧ Below w.heap.size w w' := by
  obtain ⟨bb, o, rfl, hbH, c0, c1, c2⟩ := rd3 h
  have m1 := hm.cell ha hb hd
  have m2 := hm.cell ha hd hb
  have n1 := codeN_lt ha hb hd
  have n2 := codeN_lt ha hd hb
  generalize decide ([(a : Int), (d : Int), (b : Int)] ∈ K) = s2 at *
  clear hm h
  cases hs1 : decide ([(a : Int), (b : Int), (d : Int)] ∈ K) with
  | false =>
    rw [hs1] at m1
    go_enter Tryd.func27, Tryd.ntmps27
    go_wp2
    go_quiet (refine Calls.quiet_of_same (code_any _ _ _ _ (by assumption) (by assumption) (by assumption)))
    go_wp2
    go_ret
    exact ⟨rfl, below_drewN (Below.refl _ _) _⟩
  | true =>
    rw [hs1] at m1
    go_enter Tryd.func27, Tryd.ntmps27
    go_wp2
    go_quiet (refine Calls.quiet_of_same (code_any _ _ _ _ (by assumption) (by assumption) (by assumption)))
    go_wp2
    go_ret
    exact ⟨rfl, below_drewN (Below.refl _ _) _⟩

theorem ckL_no {n : Int} {L : List (List Int)} (hL : ∀ t ∈ L, Thr n t) {t : List Int} (h : ¬ Thr n t) : ckL L t = false := by
  have : ¬ Cl L t := fun hc => h (hc.thr hL)
  simp [ckL, this]

end Go.Proofs.YthefnanhikjddaaDoor
