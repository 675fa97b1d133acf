/- The first list of rings, its capacity told. -/
import Derived.Test.YtgojojoanhilnabDoorFirst
import Derived.Test.YtgojojoanhilnabDoorMA
namespace Go.Proofs.YtgojojoanhilnabDoor
open Go.ChangeShapes Go.WideShapes Go.ChangeAt Go.RowKit

set_option maxRecDepth 10000 in
set_option maxHeartbeats 1000000 in
theorem firstListW_any (v : Value) (C : Nat) (M : List (List Int)) (w : World) (h : RowN w C 49 7 v (padM M)) (hM : M.length ≤ 1000) (hI : ∀ l ∈ M, 1 ≤ l.length ∧ l.length ≤ 7 ∧ ∀ x ∈ l, 0 ≤ x) :
    Calls Tryd.prog 22 #[v] w fun e w' => ∃ v', e = .returned (.tuple #[v', .bool (decide (0 < M.length))]) ∧ Own w' w.heap.size v' (rowK M 0) ∧ Below w.heap.size w w' := by
  have hlen : (padM M).length = M.length := by simp [padM]
  by_cases h0 : 0 < M.length
  · obtain ⟨g, c', e0, _, _, _, _, _, _⟩ := h.elem (k := 0) (by rw [hlen]; exact h0)
    subst e0
    have HR2 := Lib.hid h
    have H0 : Hid (0 < (padM M).length) := by rw [hlen]; exact h0
    have HE : Hid (rowK (padM M) 0 = padR (rowK M 0)) := by simp [Hid, padM, rowK, List.getD, h0]
    have hi := hI _ (rowK_mem h0)
    have HLI := Lib.hid (fun W => list_any (rowK M 0) W hi.1 hi.2.1 hi.2.2)
    have HD : Hid (decide (0 < M.length) = true) := by simpa [Hid] using h0
    rw [HD.out]
    obtain ⟨z, hz⟩ : ∃ z, z = (padM M).length := ⟨_, rfl⟩
    rw [← hz] at HR2 H0 ⊢
    have HZ := Lib.hid hz.symm
    have hzb : z ≤ 1000 := by omega
    clear h hi hI h0 hlen hz
    have hz0 : 0 < z := H0.out
    have he' : ((z : Int) == 0) = false := by simp; omega
    go_enter Tryd.func22, Tryd.ntmps22
    go_wp2_with (first
      | (refine load_elem rfl _ 49 rfl _ rfl Tryd.underlying49 g z c' C 0 7 (padM M) HR2 (by rw [HZ.out]; exact hz0) ring_size rfl ?_; rw [HE.out])
      | (go_at_call 34; refine (HLI.out _).mono ?_; rintro e w3 ⟨v3, rfl, ho3, hb3⟩))
    go_ret2
    exact ⟨v3, rfl, ho3, hb3⟩
  · have hz : (padM M).length = 0 := by omega
    have HD : Hid (decide (0 < M.length) = false) := by simpa [Hid] using h0
    have HE : Hid (rowK M 0 = []) := by rw [List.eq_nil_of_length_eq_zero (by omega : M.length = 0)]; rfl
    obtain ⟨A', d', rfl⟩ := h.slice
    rw [hz, HD.out, HE.out]
    clear h hM hI h0 hlen hz
    go_enter Tryd.func22, Tryd.ntmps22
    go_wp2
    go_ret2
    exact ⟨.slice none 0 0, rfl, ⟨rfl, .inl ⟨rfl, rfl⟩⟩, Below.refl _ _⟩
end Go.Proofs.YtgojojoanhilnabDoor
