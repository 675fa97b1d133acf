/- TermDeep: the program's and the model's. -/
import Derived.Test.YtphffefkjbgibaaDoorTn3
namespace Go.Proofs.YtphffefkjbgibaaDoor
open Go.ChangeShapes Go.WideShapes Go.ChangeAt Go.RowKit

def IntQ (d : Nat) (ok : Bool) (w : World) (e : Ending) (w' : World) : Prop := e = .returned (.tuple #[.int .i64 (d : Int), .bool ok]) ∧ Below w.heap.size w w'
attribute [local go_sem ↓] ldR_fold stR_fold in
theorem deepI_no (s : ByteArray) (w : World) (hand : Hand w) (hs : s.size ≤ 1048576) (h : ringT s.data.toList = none) : Calls Tryd.prog 7 #[.string s] w (IntQ 0 false w) := by
  have HD := Lib.hid ((rrNo7 s hs h).out w hand)
  clear h
  go_enter Tryd.func7, Tryd.ntmps7
  go_wp2_with (go_at_call 21; refine HD.out.mono ?_; rintro e w1 ⟨rfl, hb1⟩; obtain ⟨W2, r2, a2, b2⟩ := put7 w1 (-1) (-1) (-1) (-1) (-1) (-1) (-1))
  go_ret2
  exact ⟨rfl, hb1.trans (b2.out.mono hb1.size)⟩
attribute [local go_sem ↓] ldR_fold stR_fold in
theorem deepI_yes (s : ByteArray) (w : World) (hand : Hand w) (hs : s.size ≤ 1048576) (t : Tm) (h : ringT s.data.toList = some t) : Calls Tryd.prog 7 #[.string s] w (IntQ t.dep true w) := by
  obtain ⟨hok, hlen, h60⟩ := rdT_ok (ringT_ok h).1
  obtain ⟨q0, q1, q2, q3, q4, q5, q6, hQ, HC⟩ := rrYes7 s hs t h
  have HD := Lib.hid (HC.out w hand)
  have HRW : Hid (∀ (v : Value) (W : World), TR W (fun b => b < W.heap.size) t v → Calls Tryd.prog 22 #[v] W (DepQ t.dep W)) := fun v W hv => depI_all t.len t v W (Nat.le_refl _) (by omega) hok hv
  clear HC h hok hlen h60
  go_enter Tryd.func7, Tryd.ntmps7
  go_wp2_with fail
  refine HD.out.mono ?_
  rintro e w1 ⟨v, rfl, ht, hb1⟩
  obtain ⟨W2, r2, a2, b2⟩ := put7 w1 q0 q1 q2 q3 q4 q5 q6
  have HRC := Lib.hid (HRW.out v W2 (TR.keep (fun k hk => b2.out.block k hk) (fun k hk => by have := b2.out.size; omega) _ _ ht))
  have HB2 := Lib.hid (hb1.trans (b2.out.mono hb1.size))
  obtain ⟨T, x, rfl⟩ := ht.iface
  clear HRW ht hb1 HD a2 b2
  go_wp2_with (go_at_call 22; refine HRC.out.mono ?_; rintro e w3 ⟨rfl, hb3⟩)
  go_ret2
  exact ⟨rfl, HB2.out.trans (hb3.mono HB2.out.size)⟩
attribute [local go_sem ↓] ld9_fold st9_fold in
theorem deepS_no (s : ByteArray) (w : World) (h : ringT s.data.toList = none) : Calls Tryd.prog 8 #[.string s] w (IntQ 0 false w) := by
  have HD := Lib.hid (ofNo s w h)
  clear h
  go_enter Tryd.func8, Tryd.ntmps8
  go_wp2_with (go_at_call 23; refine HD.out.mono ?_; rintro e w1 ⟨c, A, n, d, rfl, hb1⟩; obtain ⟨W2, r2, a2, b2⟩ := put9 w1 c A n d)
  go_ret2
  exact ⟨rfl, hb1.trans (b2.out.mono hb1.size)⟩
attribute [local go_sem ↓] ld9_fold st9_fold in
theorem deepS_yes (s : ByteArray) (w : World) (t : Tm) (h : ringT s.data.toList = some t) : Calls Tryd.prog 8 #[.string s] w (IntQ t.dep true w) := by
  obtain ⟨hok, hlen, h60⟩ := rdT_ok (ringT_ok h).1
  have HRW : Hid (∀ (a b : Value) (W : World), TS W (fun k => k < W.heap.size) t a b → Calls Tryd.prog 24 #[.agg #[a, b]] W (DepQ t.dep W)) := fun a b W hv => depS_all t.len t a b W (Nat.le_refl _) (by omega) hok hv
  have HD := Lib.hid (ofYes s w t h)
  clear h hok hlen h60
  go_enter Tryd.func8, Tryd.ntmps8
  go_wp2_with fail
  refine HD.out.mono ?_
  rintro e w1 ⟨a, b, rfl, ht, hb1⟩
  have HT := Lib.hid ht
  obtain ⟨e1, A, d, e2⟩ := ht.form
  subst e1; subst e2
  obtain ⟨W2, r2, a2, b2⟩ := put9 w1 (t.sig.toNat : Int) A t.kids.length d
  have l2 := a2.out.ld
  have HRC := Lib.hid (HRW.out _ _ W2 (TS.keep (fun k hk => b2.out.block k hk) (fun k hk => by have := b2.out.size; omega) _ _ _ HT.out))
  have HB2 := Lib.hid (hb1.trans (b2.out.mono hb1.size))
  clear HRW ht HT hb1 HD a2 b2
  go_wp2_with (go_at_call 24; refine HRC.out.mono ?_; rintro e w3 ⟨rfl, hb3⟩)
  go_ret2
  exact ⟨rfl, HB2.out.trans (hb3.mono HB2.out.size)⟩
end Go.Proofs.YtphffefkjbgibaaDoor
