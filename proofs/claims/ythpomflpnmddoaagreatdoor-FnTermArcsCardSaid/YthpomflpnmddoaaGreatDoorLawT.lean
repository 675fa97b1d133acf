/- Contracts of chapter 9 over rows and texts at hand; a ring's text is read as the ring. -/
import Derived.Test.YthpomflpnmddoaaGreatDoorTo2
import Derived.Test.YthpomflpnmddoaaGreatDoorTn7
import Derived.Test.YthpomflpnmddoaaGreatDoorTn2
import Derived.Test.YthpomflpnmddoaaGreatDoorTp1
import Derived.Test.YthpomflpnmddoaaGreatDoorDR
namespace Go.Proofs.YthpomflpnmddoaaGreatDoor
open Go.ChangeShapes Go.WideShapes Go.ChangeAt Go.RowKit

theorem Hand.step {w w' : World} (h : Hand w) (hb : Below w.heap.size w w') : Hand w' := h.on hb
theorem pts_letters {l : List Int} (h : Ring l) : ptsU (lettersU l) = l := by
  have hx := ring_in h
  unfold ptsU lettersU
  rw [List.map_map]
  conv => rhs; rw [← List.map_id l]
  refine List.map_congr_left fun x hm => ?_
  have := letU_val (hx x hm).1 (hx x hm).2
  show ((letU x).toNat : Int) - 97 = x
  omega
theorem of_ring {l : List Int} (h : Ring l) : ringT (ofR l) = some (flt (lettersU l)) := by
  have hx := ring_in h
  have h3 := h.1.1
  have h7 := h.1.2.1
  have hl : (lettersU l).length = l.length := by simp [lettersU]
  have hL : ∀ c ∈ lettersU l, isL c = true := fun c hc => by
    obtain ⟨x, hm, rfl⟩ := List.mem_map.1 hc
    have := letU_val (hx x hm).1 (hx x hm).2
    have := hx x hm
    simp [isL]
    omega
  have := ring_txt (t := flt (lettersU l)) (flt_ok hL (by omega)) (by rw [flt_len]; omega) (by rw [flt_row, pts_letters h]; exact h.1)
  rw [flt_txt] at this
  rw [ofR, if_pos h]
  exact this
theorem of_tring {l : List Int} (h : Ring l) : tringB (bs (ofR l)).data.toList = true ∧ tringR (bs (ofR l)).data.toList = l := by
  rw [bs_list, tringB, tringR, of_ring h]
  refine ⟨rfl, ?_⟩
  show cutL (ptsU (flt (lettersU l)).row) 0 = l
  rw [flt_row, pts_letters h]
  refine cut_zero l ?_
  have h0 := h.2
  have h3 := h.1.1
  cases l with
  | nil => rfl
  | cons a l =>
    obtain rfl : a = 0 := by simpa using h0
    simp
theorem ofR_size (l : List Int) : (bs (ofR l)).size ≤ 100 := by
  rw [bs_size, ofR]
  split
  · rename_i h
    have := h.1.2.1
    simp [lettersU]
    omega
  · simp
theorem cI_TermRing {w : World} (s : ByteArray) (hs : s.size ≤ 1048576) (hT : Hand w) : Calls Tryz.prog 8 #[.string s] w fun e w' => ∃ v, e = .returned (.tuple #[v, .bool (tringB s.data.toList)]) ∧ NewR w' v (tringR s.data.toList) ∧ Below w.heap.size w w' :=
  (tringI_law w.heap.size s w (Nat.le_refl _) hs hT).mono fun _ _ ⟨v, e, ho, hb⟩ => ⟨v, e, ho.newR (tringR_length _), hb⟩
end Go.Proofs.YthpomflpnmddoaaGreatDoor
