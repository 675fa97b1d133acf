/- How often a ring has a pattern at most; patterns of as many points. Plain lemmas; the laws' factorial. -/
import Derived.Test.YtmfilnpbkonfaabDoorPnC
import Derived.Test.YtmfilnpbkonfaabDoorPR
namespace Go.Proofs.YtmfilnpbkonfaabDoor
open Go.ChangeShapes Go.WideShapes Go.ChangeAt Go.RowKit

/-- How many sets of k of n points there are. -/
def chN (n k : Nat) : Nat := (facN n).toNat / (facN k).toNat / (facN (n - k)).toNat
theorem ch_sets : ∀ n k : Fin 8, k.val ≤ n.val → ((List.range (2 ^ n.val)).countP fun s => decide (sizN s = k.val)) = chN n.val k.val := by decide +kernel
theorem fac_facts : ∀ n k : Fin 8, k.val ≤ n.val → 1 ≤ facN n.val ∧ facN n.val ≤ 5040 ∧ Int.tdiv (facN n.val) (facN k.val) = (((facN n.val).toNat / (facN k.val).toNat : Nat) : Int) ∧ (facN n.val).toNat / (facN k.val).toNat ≤ 5040 ∧ Int.tdiv (((facN n.val).toNat / (facN k.val).toNat : Nat) : Int) (facN (n.val - k.val)) = (chN n.val k.val : Int) ∧ chN n.val k.val ≤ 5040 := by decide +kernel
theorem mny_ch {l p : List Int} (ht : Tell l) (h : p.length ≤ l.length) : mnyN l p ≤ chN l.length p.length := by
  have := ch_sets ⟨l.length, by have := ht.2.1; omega⟩ ⟨p.length, by have := ht.2.1; omega⟩ h
  simp only at this
  rw [← this]
  unfold mnyN cntP
  refine List.countP_mono_left fun s hs hat => ?_
  by_cases hz : sizN s = p.length
  · simpa using hz
  · rw [at_siz ht (List.mem_range.1 hs) hz] at hat
    cases hat
theorem full_facts : ∀ n : Fin 8, 1 ≤ n.val → lowN (2 ^ n.val - 1) = 0 ∧ (∀ s : Fin 128, s.val < 2 ^ n.val → sizN s.val = n.val → s.val = 2 ^ n.val - 1) ∧ ∀ x : Fin 8, x.val < n.val → (2 ^ n.val - 1).testBit x.val = true ∧ blwN (2 ^ n.val - 1) x.val = x.val := by decide +kernel
theorem pat_full {l : List Int} (hr : Ring l) : patL l (2 ^ l.length - 1) = l := by
  have h7 := hr.1.2.1
  have h3 := hr.1.1
  obtain ⟨f1, _, f3⟩ := full_facts ⟨l.length, by omega⟩ (by simp; omega)
  simp only at f1 f3
  have hpw := Nat.one_le_two_pow (n := l.length)
  have hs : 2 ^ l.length - 1 < 2 ^ l.length := by omega
  have hbd : ∀ x ∈ l, 0 ≤ x ∧ x.toNat < l.length := fun x hx => by have := hr.1.2.2.1 x hx; omega
  have e1 : partL l (2 ^ l.length - 1) = l := by
    have hc : cutL l ((0 : Nat) : Int) = l := cut_zero l (idx_zero l (by omega) hr.2)
    unfold partL
    rw [f1, hc]
    unfold pickN
    rw [List.filter_eq_self]
    intro x hx
    have hb := hbd x hx
    exact (f3 ⟨x.toNat, by omega⟩ hb.2).1
  have e2 := pat_map hr.1 hs
  rw [e1] at e2
  rw [e2]
  have : l.map (fun x => (blwN (2 ^ l.length - 1) x.toNat : Int)) = l.map id := List.map_congr_left fun x hx => by
    have hb := hbd x hx
    have h := (f3 ⟨x.toNat, by omega⟩ hb.2).2
    simp only at h
    rw [h]
    simp only [id]
    omega
  rw [this, List.map_id]
theorem mny_same {l p : List Int} (hr : Ring l) (h : p.length = l.length) : mnyN l p = if l = p then 1 else 0 := by
  have h7 := hr.1.2.1
  have h3 := hr.1.1
  obtain ⟨_, f2, _⟩ := full_facts ⟨l.length, by omega⟩ (by simp; omega)
  simp only at f2
  have hpw := Nat.one_le_two_pow (n := l.length)
  have hp7 : 2 ^ l.length ≤ 2 ^ 7 := Nat.pow_le_pow_right (by omega) h7
  have e : mnyN l p = cntP l p (2 ^ l.length - 1 + 1) := by rw [mnyN, show 2 ^ l.length - 1 + 1 = 2 ^ l.length by omega]
  have e0 : cntP l p (2 ^ l.length - 1) = 0 := by
    unfold cntP
    rw [List.countP_eq_zero]
    intro s hs
    have hs' := List.mem_range.1 hs
    by_cases hz : sizN s = p.length
    · have := f2 ⟨s, by omega⟩ (by simp; omega) (by rw [hz, h])
      simp only at this
      omega
    · rw [at_siz hr.1 (by omega) hz]; simp
  rw [e, cntP_step, e0, Nat.zero_add]
  unfold atN
  rw [pat_full hr]
  by_cases hlp : l = p <;> simp [hlp]
end Go.Proofs.YtmfilnpbkonfaabDoor
