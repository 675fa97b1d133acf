/- TermRow: the program's and the model's. -/
import Derived.Test.YtphffefkjbgibaaGreatDoorTmZ
namespace Go.Proofs.YtphffefkjbgibaaGreatDoor
open Go.ChangeShapes Go.WideShapes Go.ChangeAt Go.RowKit

/-- A string and whether there is one. -/
def StrQ (l : List UInt8) (ok : Bool) (w : World) (e : Ending) (w' : World) : Prop := e = .returned (.tuple #[.string (bs l), .bool ok]) ∧ Below w.heap.size w w'
theorem bs_nil : (⟨#[]⟩ : ByteArray) = bs [] := rfl

attribute [local go_sem ↓] ldR_fold stR_fold in
theorem rowI_no (s : ByteArray) (w : World) (hand : Hand w) (hs : s.size ≤ 1048576) (h : ringT s.data.toList = none) : Calls Tryz.prog 7 #[.string s] w (StrQ [] false w) := by
  have HD := Lib.hid ((rrNo7 s hs h).out w hand)
  clear h
  go_enter Tryz.func7, Tryz.ntmps7
  go_wp2_with (go_at_call 12; refine HD.out.mono ?_; rintro e w1 ⟨rfl, hb1⟩; obtain ⟨W2, r2, a2, b2⟩ := put7 w1 (-1) (-1) (-1) (-1) (-1) (-1) (-1))
  go_ret2
  exact ⟨rfl, hb1.trans (b2.out.mono hb1.size)⟩
attribute [local go_sem ↓] ldR_fold stR_fold in
theorem rowI_yes (s : ByteArray) (w : World) (hand : Hand w) (hs : s.size ≤ 1048576) (t : Tm) (h : ringT s.data.toList = some t) : Calls Tryz.prog 7 #[.string s] w (StrQ t.row true w) := by
  obtain ⟨hok, hlen, h60⟩ := rdT_ok (ringT_ok h).1
  obtain ⟨q0, q1, q2, q3, q4, q5, q6, hQ, HC⟩ := rrYes7 s hs t h
  have HD := Lib.hid (HC.out w hand)
  have HRW : Hid (∀ (v : Value) (W : World), TR W (fun b => b < W.heap.size) t v → RowC W t.row v) := fun v W hv => row_any hok (by omega) hv
  have x1 := m_let
  have x2 := m_sgn
  have x3 := m_brk
  clear HC h hok hlen h60
  go_enter Tryz.func7, Tryz.ntmps7
  go_wp2_with fail
  refine HD.out.mono ?_
  rintro e w1 ⟨v, rfl, ht, hb1⟩
  obtain ⟨W2, r2, a2, b2⟩ := put7 w1 q0 q1 q2 q3 q4 q5 q6
  have HRC := Lib.hid (HRW.out v W2 (TR.keep (fun k hk => b2.out.block k hk) (fun k hk => by have := b2.out.size; omega) _ _ ht))
  have HB2 := Lib.hid (hb1.trans (b2.out.mono hb1.size))
  have hcs := ht.cases
  clear HRW ht hb1 HD a2 b2
  rcases hcs with ⟨x, rfl⟩ | ⟨y, rfl⟩ | ⟨a, m, c', rfl⟩
  all_goals
    go_wp2_with (first
      | (go_at_call 110; refine (HRC.out.let_ _ rfl).mono ?_; rintro e w3 ⟨rfl, hb3⟩)
      | (go_at_call 104; refine (HRC.out.sgn_ _ rfl).mono ?_; rintro e w3 ⟨rfl, hb3⟩)
      | (go_at_call 37; refine (HRC.out.brk_ _ _ _ rfl).mono ?_; rintro e w3 ⟨rfl, hb3⟩))
    go_ret2
    exact ⟨rfl, HB2.out.trans (hb3.mono HB2.out.size)⟩
end Go.Proofs.YtphffefkjbgibaaGreatDoor
