/- What differs where points are called otherwise. -/
import Derived.Test.YtamnacgclhaggabSdM
import Derived.Test.YtamnacgclhaggabNamedM
import Derived.Test.YtamnacgclhaggabNamedT
namespace Go.Proofs.Ytamnacgclhaggab
open Go.ChangeShapes Go.WideShapes Go.ChangeAt Go.RowKit

theorem has3_steps {l m : List Int} {x y z x' y' z' : Int} (h1 : stepsI l x y = stepsI m x' y') (h2 : stepsI l x z = stepsI m x' z') : has3 l [x, y, z] = has3 m [x', y', z'] := by
  unfold has3
  simp only [List.getD_cons_zero, List.getD_cons_succ]
  rw [h1, h2]
theorem called_steps {l p : List Int} (h : Ring l) (hp : Tell p) (e : p.length = l.length) {x y : Int} (hx : x ∈ l) (hy : y ∈ l) : stepsI (cutL (callL l p) 0) (p.getD x.toNat 0) (p.getD y.toNat 0) = stepsI l x y := by
  have ht := callL_tell h.1 hp e
  have k : ∀ {x : Int}, x ∈ l → p.getD x.toNat 0 ∈ callL l p := fun {x} hx => by
    rw [← callL_at (p := p) hx]
    exact getD_mem _ _ (by rw [callL_len]; exact List.idxOf_lt_length_of_mem hx)
  rw [steps_cut ht ht.zero (k hx) (k hy)]
  unfold stepsI
  rw [callL_len, callL_idx h.1 hp e hx, callL_idx h.1 hp e hy]
theorem called_pt {l p : List Int} (h : Ring l) (hp : Tell p) (e : p.length = l.length) {u : Nat} (hu : u < l.length) : ∃ x : Int, x ∈ l ∧ p.getD x.toNat 0 = (u : Int) := by
  have m : (u : Int) ∈ p := hp.has (by omega) (by omega)
  have hi := List.idxOf_lt_length_of_mem m
  refine ⟨(p.idxOf (u : Int) : Nat), h.1.has (by omega) (by omega), ?_⟩
  have := List.getElem_idxOf hi
  rw [Int.toNat_natCast]
  simp [List.getD, hi, this]
theorem called_ring {l p : List Int} (h : Ring l) (hp : Tell p) (e : p.length = l.length) : Ring (cutL (callL l p) 0) ∧ (cutL (callL l p) 0).length = l.length := by
  have ht := callL_tell h.1 hp e
  have hr := cutL_ring ht
  refine ⟨hr, ?_⟩
  have := cutL_length (callL l p) 0
  rw [callL_len] at this
  exact this
theorem called_differ {l p : List Int} (h : Ring l) (hp : Tell p) (e : p.length = l.length) : difX (cutL (callL l p) 0) (cutL (callL (backL l) p) 0) l.length = cntT l.length := by
  have hb := backL_ring h
  have eb : p.length = (backL l).length := by rw [backL_length]; exact e
  obtain ⟨r1, n1⟩ := called_ring h hp e
  rw [← n1]
  refine difX_all fun x y z hxy hyz hz => ?_
  rw [n1] at hz
  obtain ⟨x', mx, ex⟩ := called_pt h hp e (u := x) (by omega)
  obtain ⟨y', my, ey⟩ := called_pt h hp e (u := y) (by omega)
  obtain ⟨z', mz, ez⟩ := called_pt h hp e (u := z) (by omega)
  have xy : x' ≠ y' := fun c => by rw [c, ey] at ex; omega
  have yz : y' ≠ z' := fun c => by rw [c, ez] at ey; omega
  have xz : x' ≠ z' := fun c => by rw [c, ez] at ex; omega
  have h1 : has3 (cutL (callL l p) 0) [(x : Int), (y : Int), (z : Int)] = has3 l [x', y', z'] := by
    rw [← ex, ← ey, ← ez]
    exact has3_steps (called_steps h hp e mx my) (called_steps h hp e mx mz)
  have h2 : has3 (cutL (callL (backL l) p) 0) [(x : Int), (y : Int), (z : Int)] = has3 (backL l) [x', y', z'] := by
    rw [← ex, ← ey, ← ez]
    exact has3_steps (called_steps hb hp eb (backL_mem mx) (backL_mem my)) (called_steps hb hp eb (backL_mem mx) (backL_mem mz))
  unfold dif
  rw [h1, h2, has3_bck h.1.2.2.2 mx my mz xy yz xz]
  cases has3 l [x', y', z'] <;> simp
end Go.Proofs.Ytamnacgclhaggab
