/- Flat terms: their depth, their arcs. -/
import Derived.Test.YthpomflpnmddoaaGreatDoorTp1
namespace Go.Proofs.YthpomflpnmddoaaGreatDoor
open Go.ChangeShapes Go.WideShapes Go.ChangeAt Go.RowKit

theorem bits_full {r : List UInt8} (h : Tell (ptsU r)) : bitsU r = 2 ^ r.length - 1 := by
  apply Nat.eq_of_testBit_eq
  intro j
  rw [Nat.testBit_two_pow_sub_one]
  unfold bitsU maskN
  rw [mask_bit _ h.pos]
  simp only [Nat.zero_testBit, Bool.false_or]
  rw [decide_eq_decide]
  have hl := ptsU_len r
  constructor
  · intro hm
    have := (h.2.2.1 _ hm).2
    omega
  · intro hj
    exact h.has (by omega) (by omega)
theorem setss_L (r : List UInt8) : Tm.setss (r.map .L) = [] := by
  induction r with
  | nil => simp [Tm.setss]
  | cons c r ih => rw [List.map_cons, Tm.setss, ih, Tm.sets]; rfl
theorem flt_arcs {r : List UInt8} (h : Tell (ptsU r)) : (flt r).arcs = [] := by
  refine List.eq_nil_iff_forall_not_mem.2 fun x hx => ?_
  obtain ⟨s, _, _, hs, hm⟩ := (arcs_mem (flt r) x).1 hx
  rw [flt_row] at hs
  have e : (flt r).sets = [bitsU r] := by rw [flt, Tm.sets, rowsL_L, setss_L]
  rw [e, List.mem_singleton, bits_full h] at hm
  omega
end Go.Proofs.YthpomflpnmddoaaGreatDoor
