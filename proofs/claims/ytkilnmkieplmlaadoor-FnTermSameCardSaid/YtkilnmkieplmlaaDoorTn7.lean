/- TermRing: the program's and the model's. -/
import Derived.Test.YtkilnmkieplmlaaDoorTn1
import Derived.Test.YtkilnmkieplmlaaDoorMA
namespace Go.Proofs.YtkilnmkieplmlaaDoor
open Go.ChangeShapes Go.WideShapes Go.ChangeAt Go.RowKit

theorem Hand.turn {w w' : World} {B C : Nat} (h : Hand w) (ht : Turn B C w w') (hB : 0 + 1 ≤ B) : Hand w' := h.below (below_turn (Below.refl (0 + 1) w) ht hB h.1) (Nat.lt_succ_self _)
/-- The ring that a text tells, and whether there is one. -/
def tringR (l : List UInt8) : List Int := match ringT l with | none => [] | some t => cutL (ptsU t.row) 0
def tringB (l : List UInt8) : Bool := (ringT l).isSome
theorem tringR_length (l : List UInt8) : (tringR l).length ≤ 7 := by
  unfold tringR
  rcases h : ringT l with _ | t
  · simp
  · have := (ringT_ok h).2.2.1; simpa using this

attribute [local go_sem ↓] ld9_fold st9_fold in
theorem tringS_no (s : ByteArray) (w : World) (h : ringT s.data.toList = none) : Calls Tryd.prog 9 #[.string s] w fun e w' => ∃ v, e = .returned (.tuple #[v, .bool false]) ∧ Own w' w.heap.size v [] ∧ Below w.heap.size w w' := by
  have HD := Lib.hid (ofNo s w h)
  clear h
  go_enter Tryd.func9, Tryd.ntmps9
  go_wp2_with (first
    | (go_at_call 18; refine HD.out.mono ?_; rintro e w1 ⟨c, A, n, d, rfl, hb1⟩; obtain ⟨W2, r2, a2, b2⟩ := put9 w1 c A n d)
    | (go_at_call 19; refine (none_any _).mono ?_; rintro e w3 ⟨v, rfl, ho, hb3⟩))
  go_ret2
  have hs2 := hb1.size
  have hs3 := b2.out.size
  exact ⟨_, rfl, own_less ho (by omega), (hb1.trans (b2.out.mono hb1.size)).trans (hb3.mono (by omega))⟩
attribute [local go_sem ↓] ld9_fold st9_fold in
theorem tringS_yes (s : ByteArray) (w : World) (t : Tm) (h : ringT s.data.toList = some t) : Calls Tryd.prog 9 #[.string s] w fun e w' => ∃ v, e = .returned (.tuple #[v, .bool true]) ∧ Own w' w.heap.size v (cutL (ptsU t.row) 0) ∧ Below w.heap.size w w' := by
  obtain ⟨hok, hlen, h60⟩ := rdT_ok (ringT_ok h).1
  have hT := (ringT_ok h).2
  have HRW : Hid (∀ (a b : Value) (W : World), TS W (fun k => k < W.heap.size) t a b → Calls Tryd.prog 22 #[.agg #[a, b], .bool false] W (RowM t.row W)) := fun a b W hv => rowM_any hok (by omega) hv false
  obtain ⟨q, hq⟩ : ∃ q, q = bs t.row := ⟨_, rfl⟩
  have hq1 : q.data.toList = t.row := by rw [hq, bs_list]
  have hq2 : q.size ≤ 1000 := by have := trow_le t; rw [hq, bs_size]; omega
  obtain ⟨l, hl⟩ : ∃ l, l = ptsU t.row := ⟨_, rfl⟩
  have HLS := Lib.hid (fun V => list9_any q V hq2)
  rw [hq1, ← hl] at HLS
  rw [← hl] at hT ⊢
  have HQ := Lib.hid hq
  have HD := Lib.hid (ofYes s w t h)
  have h3 := hT.1
  have h7 := hT.2.1
  have HZ := Lib.hid hT.zero
  clear h hok hlen h60 hq hq1 hq2 hl hT
  go_enter Tryd.func9, Tryd.ntmps9
  go_wp2_with fail
  refine HD.out.mono ?_
  rintro e w1 ⟨a, b, rfl, ht, hb1⟩
  have HT := Lib.hid ht
  obtain ⟨e1, A, d, e2⟩ := ht.form
  subst e1; subst e2
  obtain ⟨W2, r2, a2, b2⟩ := put9 w1 (t.sig.toNat : Int) A t.kids.length d
  have l2 := a2.out.ld
  have HRC := Lib.hid (HRW.out _ _ W2 (TS.keep (fun k hk => b2.out.block k hk) (fun k hk => by have := b2.out.size; omega) _ _ _ HT.out))
  have HB2 := Lib.hid (hb1.trans (b2.out.mono hb1.size))
  clear HRW ht HT hb1 HD a2 b2
  go_wp2_with fail
  refine HRC.out.mono ?_
  rintro e w3 ⟨rfl, hb3⟩
  rw [← HQ.out]
  have HB3 := Lib.hid (HB2.out.trans (hb3.mono HB2.out.size))
  clear hb3 HRC
  go_wp2_with fail
  refine (HLS.out w3).mono ?_
  rintro e w4 ⟨v, rfl, hown, hb4⟩
  have HB4 := Lib.hid (HB3.out.trans (hb4.mono HB3.out.size))
  obtain ⟨A4, d4, rfl⟩ : ∃ A d, v = .slice A l.length d := by
    rcases hown.2 with ⟨e, h0⟩ | ⟨g, cap, cur, e, _⟩
    · exact ⟨none, 0, by rw [e, h0]⟩
    · exact ⟨_, cap, e⟩
  have HRD := Lib.hid hown.rd.2
  clear hown hb4 HLS
  go_wp2_with (go_at_call 20; refine (cutS_any A4 l.length d4 w4.heap.size l 0 w4 HRD.out (Nat.le_refl _) (by omega) (by omega) HZ.out).mono ?_; rintro e w5 ⟨v5, rfl, ho5, hb5⟩)
  go_ret2
  exact ⟨_, rfl, own_less ho5 HB4.out.size, HB4.out.trans (hb5.mono HB4.out.size)⟩
theorem tringS_law (H : Nat) (s : ByteArray) (W : World) (_hH : H ≤ W.heap.size) (_hn : s.size ≤ 1048576) : Calls Tryd.prog 9 #[.string s] W fun e w' => ∃ v, e = .returned (.tuple #[v, .bool (tringB s.data.toList)]) ∧ Own w' W.heap.size v (tringR s.data.toList) ∧ Below W.heap.size W w' := by
  unfold tringB tringR
  rcases h : ringT s.data.toList with _ | t
  · exact tringS_no s W h
  · exact tringS_yes s W t h
end Go.Proofs.YtkilnmkieplmlaaDoor
