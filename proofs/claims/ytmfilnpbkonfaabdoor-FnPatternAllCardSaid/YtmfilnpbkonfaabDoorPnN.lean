/- Each four points have one pattern: the maths; the laws' adding. -/
import Derived.Test.YtmfilnpbkonfaabDoorPnG
import Derived.Test.YtmfilnpbkonfaabDoorPnHb
import Derived.Test.YtmfilnpbkonfaabDoorPnJ
import Derived.Test.YtmfilnpbkonfaabDoorPnKr
import Derived.Test.YtmfilnpbkonfaabDoorPR
namespace Go.Proofs.YtmfilnpbkonfaabDoor
open Go.ChangeShapes Go.WideShapes Go.ChangeAt Go.RowKit

def sumS (l : List Int) : Nat → Int
  | 0 => 0
  | k + 1 => sumS l k + l.getD k 0
theorem sumS_bd (l : List Int) (h : ∀ k, 0 ≤ l.getD k 0 ∧ l.getD k 0 ≤ 1000) : ∀ k, 0 ≤ sumS l k ∧ sumS l k ≤ 1000 * k
  | 0 => by simp [sumS]
  | k + 1 => by
    have h1 := sumS_bd l h k
    have h2 := h k
    simp only [sumS]
    omega
set_option maxHeartbeats 400000 in
theorem total8_any {w : World} {A : Option Addr} {n c c' : Nat} {l : List Int} (h : Rw w A n c l) (hb : ∀ k, 0 ≤ l.getD k 0 ∧ l.getD k 0 ≤ 1000) :
    Calls Tryd.prog 25 #[.slice A n c'] w fun e w' => e = .returned (.int .i64 (sumS l n)) ∧ Below w.heap.size w w' := by
  have hl := Lib.hid h.rd
  have hn7 := h.2.2.2
  have HBD := Lib.hid hb
  have HSB := Lib.hid (sumS_bd l hb)
  clear h hb
  go_enter Tryd.func25, Tryd.ntmps25
  go_wp2
  go_loopw [3, 4] (fun s i wr => ∃ k : Nat, k ≤ n ∧ i = .int .i64 k ∧ s = .int .i64 (sumS l k) ∧ Below w.heap.size w wr) (fun _ i _ => n - (intOf i).toNat)
  case atStart => exact ⟨0, Nat.zero_le _, rfl, rfl, Below.refl _ _⟩
  case round =>
    obtain ⟨k, hk, rfl, rfl, hbl⟩ := hrel
    have hsb := HSB.out k
    by_cases hlt : k < n
    · obtain ⟨b, o, rfl, hbb, hcs⟩ := (hl.out.below hbl).at_ (by omega)
      have hc := hcs k hlt
      have hd := HBD.out k
      have hs : Hid (sumS l k + l.getD k 0 = sumS l (k + 1)) := rfl
      clear hcs
      generalize sumS l k = s at *
      generalize l.getD k 0 = d at *
      have hw : IntKind.i64.wrap (s + d) = s + d := IntWalk.i64_in _ (by omega)
      go_wp2
      go_roundw
      case rel => exact ⟨k + 1, by omega, by go_num, by rw [hs.out], hbl⟩
      case measure => simp [intOf]; omega
    · obtain rfl : k = n := by omega
      go_wp2
      go_ret
      exact ⟨rfl, hbl⟩

theorem four_is {p : List Int} (hr : Ring p) (h4 : p.length = 4) : ∃ K : Fin 6, p = byL 4 (K.val : Int) := by
  obtain ⟨h0, h1, h2⟩ := ring_num hr
  rw [h4] at h1 h2 h0
  have e : facN (4 - 1) = 6 := by decide
  refine ⟨⟨(numP p 4).toNat, by omega⟩, ?_⟩
  show p = byL 4 (((numP p 4).toNat : Nat) : Int)
  rw [Int.toNat_of_nonneg h0, h2]
def bN (b : Bool) : Nat := if b then 1 else 0
theorem four_one : ∀ K : Fin 6, bN (decide (byL 4 (K.val : Int) = byL 4 0)) + bN (decide (byL 4 (K.val : Int) = byL 4 1)) + bN (decide (byL 4 (K.val : Int) = byL 4 2)) + bN (decide (byL 4 (K.val : Int) = byL 4 3)) + bN (decide (byL 4 (K.val : Int) = byL 4 4)) + bN (decide (byL 4 (K.val : Int) = byL 4 5)) = 1 := by decide +kernel
theorem four_at {l : List Int} (ht : Tell l) {s : Nat} (hs : s < 2 ^ l.length) : bN (atN l (byL 4 0) s) + bN (atN l (byL 4 1) s) + bN (atN l (byL 4 2) s) + bN (atN l (byL 4 3) s) + bN (atN l (byL 4 4) s) + bN (atN l (byL 4 5) s) = bN (decide (sizN s = 4)) := by
  by_cases h4 : sizN s = 4
  · obtain ⟨K, hK⟩ := four_is (pat_ring ht hs (by omega)) (by rw [pat_length ht hs, h4])
    unfold atN
    rw [hK, four_one K, decide_eq_true h4]; rfl
  · have h : ∀ k : Int, atN l (byL 4 k) s = false := fun k => at_siz ht hs (by rw [byL_length]; exact h4)
    rw [h, h, h, h, h, h, decide_eq_false h4]; rfl
theorem countP_bN {q : Nat → Bool} (x : Nat) (xs : List Nat) : (x :: xs).countP q = xs.countP q + bN (q x) := by
  rw [List.countP_cons]; rfl
theorem four_sum {l : List Int} (ht : Tell l) : ∀ xs : List Nat, (∀ s ∈ xs, s < 2 ^ l.length) → xs.countP (atN l (byL 4 0)) + xs.countP (atN l (byL 4 1)) + xs.countP (atN l (byL 4 2)) + xs.countP (atN l (byL 4 3)) + xs.countP (atN l (byL 4 4)) + xs.countP (atN l (byL 4 5)) = xs.countP fun s => decide (sizN s = 4)
  | [], _ => rfl
  | s :: xs, h => by
    have ih := four_sum ht xs (fun a ha => h a (by simp [ha]))
    have h1 := four_at ht (h s (by simp))
    simp only [countP_bN]
    omega
theorem apl_sum {l : List Int} (ht : Tell l) (h4 : 4 ≤ l.length) : sumS (aplK l 6) 6 = (chN l.length 4 : Int) := by
  have h := four_sum ht (List.range (2 ^ l.length)) (fun s hs => List.mem_range.1 hs)
  have hc := ch_sets ⟨l.length, by have := ht.2.1; omega⟩ ⟨4, by omega⟩ h4
  simp only at hc
  rw [hc] at h
  have e : sumS (aplK l 6) 6 = 0 + (mnyN l (byL 4 ((0 : Nat) : Int)) : Int) + (mnyN l (byL 4 ((1 : Nat) : Int)) : Int) + (mnyN l (byL 4 ((2 : Nat) : Int)) : Int) + (mnyN l (byL 4 ((3 : Nat) : Int)) : Int) + (mnyN l (byL 4 ((4 : Nat) : Int)) : Int) + (mnyN l (byL 4 ((5 : Nat) : Int)) : Int) := rfl
  rw [e]
  unfold mnyN cntP
  simp only [Int.cast_ofNat_Int]
  omega
theorem ch_four : ∀ n : Fin 8, 4 ≤ n.val → (chN n.val 4 : Int) = Int.tdiv ((n.val : Int) * ((n.val : Int) - 1) * ((n.val : Int) - 2) * ((n.val : Int) - 3)) 24 := by decide +kernel
def jN (k : Nat) : Nat := [5, 3, 4, 1, 2, 0].getD k 0
theorem four_numbers : ∀ k : Fin 6, byB 4 (k.val : Int) = true ∧ ringB (byL 4 (k.val : Int)) = true ∧ ringB (backL (byL 4 (k.val : Int))) = true ∧ numP (backL (byL 4 (k.val : Int))) 4 = (jN k.val : Int) ∧ jN k.val < 6 ∧ byL 4 (jN k.val : Int) = backL (byL 4 (k.val : Int)) := by decide +kernel
theorem aplK_get (l : List Int) (k : Nat) (hk : k < 6) : (aplK l 6).getD k 0 = (mnyN l (byL 4 (k : Int)) : Int) := by
  unfold aplK
  simp [List.getD, hk]
/-- The pattern of the ring gone the other way. -/
theorem apl_back {l : List Int} (ht : Tell l) (k : Nat) (hk : k < 6) : (aplK (backL l) 6).getD (jN k) 0 = (aplK l 6).getD k 0 := by
  obtain ⟨_, _, _, _, h5, h6⟩ := four_numbers ⟨k, hk⟩
  simp only at h5 h6
  rw [aplK_get _ _ h5, aplK_get _ _ hk, h6, mny_back ht (by rw [backL_length, byL_length]; omega), backL_back]
end Go.Proofs.YtmfilnpbkonfaabDoor
