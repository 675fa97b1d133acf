/- RingBack of the model and of the program: each list's ring gone round the other way. -/
import Derived.Test.YthpomflpnmddoaaGreatDoorBack
import Derived.Test.YthpomflpnmddoaaGreatDoorMA
namespace Go.Proofs.YthpomflpnmddoaaGreatDoor
open Go.ChangeShapes Go.WideShapes Go.ChangeAt Go.RowKit

def backR (l : List Int) : List Int := if Ring l then backL l else []
theorem backR_length (l : List Int) : (backR l).length ≤ 7 := by
  unfold backR
  split
  · rename_i h; rw [backL_length]; exact h.1.2.1
  · simp
theorem backL_pos (l : List Int) (h : Tell l) : ∀ x ∈ backL l, 0 ≤ x := fun x hx => by
  obtain ⟨i, _, rfl⟩ := List.mem_map.1 hx
  exact h.pos _ (getD_mem l _ (Nat.mod_lt _ (by have := h.1; omega)))

end Go.Proofs.YthpomflpnmddoaaGreatDoor
