/- TermFlat: the program's and the model's. -/
import Derived.Test.YthpomflpnmddoaaGreatDoorTn1
namespace Go.Proofs.YthpomflpnmddoaaGreatDoor
open Go.ChangeShapes Go.WideShapes Go.ChangeAt Go.RowKit

theorem brk_app (l : List UInt8) : (⟨#[40]⟩ : ByteArray) ++ bs l ++ ⟨#[41]⟩ = bs (40 :: (l ++ [41])) := by
  have e1 : (⟨#[40]⟩ : ByteArray) = bs [40] := rfl
  have e2 : (⟨#[41]⟩ : ByteArray) = bs [41] := rfl
  rw [e1, e2, bs_app, bs_app]
  rfl
/-- Texts of terms in brackets. -/
theorem brk_any (g n c : Nat) (L : List (List UInt8)) (w : World) (h : RowS w g n L) (hL : L.length = n) (hn : n ≤ 1048576) (hc : n ≤ c) (hl : L.flatten.length ≤ 1048576) :
    Calls Tryz.prog 45 #[.slice (some ⟨g, 0, none⟩) n c] w (RowQ (40 :: (L.flatten ++ [41])) w) := by
  have HJ := Lib.hid (join_any g n c L w h hL hn hc hl)
  obtain ⟨q, hq⟩ : ∃ q, q = bs L.flatten := ⟨_, rfl⟩
  have hqs : q.size ≤ 1048576 := by rw [hq, bs_size]; exact hl
  have HQ := Lib.hid hq
  clear hq h hL hl
  go_enter Tryz.func45, Tryz.ntmps45
  go_wp2_with (go_at_call 64; refine HJ.out.mono ?_; rintro e w1 ⟨rfl, hb1⟩; rw [← HQ.out])
  go_ret
  exact ⟨by rw [← brk_app, ← HQ.out]; rfl, hb1⟩
theorem one_row (W : World) (l : List UInt8) : RowS (W.alloc (.cells #[.string (bs l)] 9)) W.heap.size 1 [l] :=
  ⟨_, heap_alloc_new W _, rfl, fun j hj => by obtain rfl : j = 0 := by simp at hj; omega
                                              rfl⟩
end Go.Proofs.YthpomflpnmddoaaGreatDoor
