/- TermFlat: the program's and the model's. -/
import Derived.Test.YtehadbpbkenccaaGreatDoorTn1
namespace Go.Proofs.YtehadbpbkenccaaGreatDoor
open Go.ChangeShapes Go.WideShapes Go.ChangeAt Go.RowKit

theorem brk_app (l : List UInt8) : (⟨#[40]⟩ : ByteArray) ++ bs l ++ ⟨#[41]⟩ = bs (40 :: (l ++ [41])) := by
  have e1 : (⟨#[40]⟩ : ByteArray) = bs [40] := rfl
  have e2 : (⟨#[41]⟩ : ByteArray) = bs [41] := rfl
  rw [e1, e2, bs_app, bs_app]
  rfl
/-- Texts of terms in brackets. -/
theorem brk_any (g n c : Nat) (L : List (List UInt8)) (w : World) (h : RowS w g n L) (hL : L.length = n) (hn : n ≤ 1048576) (hc : n ≤ c) (hl : L.flatten.length ≤ 1048576) :
    Calls Tryz.prog 28 #[.slice (some ⟨g, 0, none⟩) n c] w (RowQ (40 :: (L.flatten ++ [41])) w) := by
  have HJ := Lib.hid (join_any g n c L w h hL hn hc hl)
  obtain ⟨q, hq⟩ : ∃ q, q = bs L.flatten := ⟨_, rfl⟩
  have hqs : q.size ≤ 1048576 := by rw [hq, bs_size]; exact hl
  have HQ := Lib.hid hq
  clear hq h hL hl
  go_enter Tryz.func28, Tryz.ntmps28
  go_wp2_with (go_at_call 91; refine HJ.out.mono ?_; rintro e w1 ⟨rfl, hb1⟩; rw [← HQ.out])
  go_ret
  exact ⟨by rw [← brk_app, ← HQ.out]; rfl, hb1⟩
theorem one_row (W : World) (l : List UInt8) : RowS (W.alloc (.cells #[.string (bs l)] 9)) W.heap.size 1 [l] :=
  ⟨_, heap_alloc_new W _, rfl, fun j hj => by obtain rfl : j = 0 := by simp at hj; omega
                                              rfl⟩
attribute [local go_sem ↓] ldR_fold stR_fold in
theorem flatI_no (s : ByteArray) (w : World) (hand : Hand w) (hs : s.size ≤ 1048576) (h : ringT s.data.toList = none) : Calls Tryz.prog 135 #[.string s] w (StrQ [] false w) := by
  have HD := Lib.hid ((rrNo7 s hs h).out w hand)
  clear h
  go_enter Tryz.func135, Tryz.ntmps135
  go_wp2_with (go_at_call 9; refine HD.out.mono ?_; rintro e w1 ⟨rfl, hb1⟩; obtain ⟨W2, r2, a2, b2⟩ := put7 w1 (-1) (-1) (-1) (-1) (-1) (-1) (-1))
  go_ret2
  exact ⟨rfl, hb1.trans (b2.out.mono hb1.size)⟩
attribute [local go_sem ↓] ldR_fold stR_fold in
theorem flatI_yes (s : ByteArray) (w : World) (hand : Hand w) (hs : s.size ≤ 1048576) (t : Tm) (h : ringT s.data.toList = some t) : Calls Tryz.prog 135 #[.string s] w (StrQ (40 :: (t.row ++ [41])) true w) := by
  obtain ⟨hok, hlen, h60⟩ := rdT_ok (ringT_ok h).1
  obtain ⟨q0, q1, q2, q3, q4, q5, q6, hQ, HC⟩ := rrYes7 s hs t h
  have HD := Lib.hid (HC.out w hand)
  have HRW : Hid (∀ (v : Value) (W : World), TR W (fun b => b < W.heap.size) t v → RowC W t.row v) := fun v W hv => row_any hok (by omega) hv
  have hrl : t.row.length ≤ 60 := by have := trow_le t; omega
  have HBR := Lib.hid (fun (W : World) => brk_any W.heap.size 1 1 [t.row] (W.alloc (.cells #[.string (bs t.row)] 9)) (one_row W t.row) rfl (by decide) (Nat.le_refl _) (by simp; omega))
  have e1 : [t.row].flatten = t.row := by simp
  rw [e1] at HBR
  have x1 := m_let
  have x2 := m_sgn
  have x3 := m_brk
  clear HC h hok hlen h60 e1
  go_enter Tryz.func135, Tryz.ntmps135
  go_wp2_with fail
  refine HD.out.mono ?_
  rintro e w1 ⟨v, rfl, ht, hb1⟩
  obtain ⟨W2, r2, a2, b2⟩ := put7 w1 q0 q1 q2 q3 q4 q5 q6
  have HRC := Lib.hid (HRW.out v W2 (TR.keep (fun k hk => b2.out.block k hk) (fun k hk => by have := b2.out.size; omega) _ _ ht))
  have HB2 := Lib.hid (hb1.trans (b2.out.mono hb1.size))
  have hcs := ht.cases
  clear HRW ht hb1 HD a2 b2
  rcases hcs with ⟨x, rfl⟩ | ⟨y, rfl⟩ | ⟨a, m, c', rfl⟩
  all_goals
    go_wp2_with (first
      | (go_at_call 345; refine (HRC.out.let_ _ rfl).mono ?_; rintro e w3 ⟨rfl, hb3⟩)
      | (go_at_call 340; refine (HRC.out.sgn_ _ rfl).mono ?_; rintro e w3 ⟨rfl, hb3⟩)
      | (go_at_call 242; refine (HRC.out.brk_ _ _ _ rfl).mono ?_; rintro e w3 ⟨rfl, hb3⟩)
      | (go_at_call 28; refine (HBR.out w3).mono ?_; rintro e w4 ⟨rfl, hb4⟩))
    go_ret2
    exact ⟨rfl, HB2.out.trans ((hb3.trans (((Below.refl _ _).alloc (Nat.le_refl _) _).trans (hb4.mono (by simp)) |>.mono hb3.size)).mono HB2.out.size)⟩
end Go.Proofs.YtehadbpbkenccaaGreatDoor
