/- Tidy terms: the model's; TermTidy: the program's and the model's. -/
import Derived.Test.YthpomflpnmddoaaGreatDoorTn5
import Derived.Test.YthpomflpnmddoaaGreatDoorTn4
namespace Go.Proofs.YthpomflpnmddoaaGreatDoor
open Go.ChangeShapes Go.WideShapes Go.ChangeAt Go.RowKit

attribute [local go_sem ↓] ldR_fold stR_fold in
theorem tidyI_no (s : ByteArray) (w : World) (hand : Hand w) (hs : s.size ≤ 1048576) (h : ringT s.data.toList = none) : Calls Tryz.prog 9 #[.string s] w (StrQ [] false w) := by
  have HD := Lib.hid ((rrNo7 s hs h).out w hand)
  clear h
  go_enter Tryz.func9, Tryz.ntmps9
  go_wp2_with (go_at_call 12; refine HD.out.mono ?_; rintro e w1 ⟨rfl, hb1⟩; obtain ⟨W2, r2, a2, b2⟩ := put7 w1 (-1) (-1) (-1) (-1) (-1) (-1) (-1))
  go_ret2
  exact ⟨rfl, hb1.trans (b2.out.mono hb1.size)⟩
attribute [local go_sem ↓] ldR_fold stR_fold in
theorem tidyI_yes (s : ByteArray) (w : World) (hand : Hand w) (hs : s.size ≤ 1048576) (t : Tm) (h : ringT s.data.toList = some t) : Calls Tryz.prog 9 #[.string s] w (StrQ (t.tidy false) true w) := by
  obtain ⟨hok, hlen, h60⟩ := rdT_ok (ringT_ok h).1
  obtain ⟨q0, q1, q2, q3, q4, q5, q6, hQ, HC⟩ := rrYes7 s hs t h
  have HD := Lib.hid (HC.out w hand)
  have HRW : Hid (∀ (v : Value) (W : World), TR W (fun b => b < W.heap.size) t v → Calls Tryz.prog 23 #[v, .bool false] W (RowQ (t.tidy false) W)) := fun v W hv => tidI_all t.len t v false W (Nat.le_refl _) (by omega) hok hv
  clear HC h hok hlen h60
  go_enter Tryz.func9, Tryz.ntmps9
  go_wp2_with fail
  refine HD.out.mono ?_
  rintro e w1 ⟨v, rfl, ht, hb1⟩
  obtain ⟨W2, r2, a2, b2⟩ := put7 w1 q0 q1 q2 q3 q4 q5 q6
  have HRC := Lib.hid (HRW.out v W2 (TR.keep (fun k hk => b2.out.block k hk) (fun k hk => by have := b2.out.size; omega) _ _ ht))
  have HB2 := Lib.hid (hb1.trans (b2.out.mono hb1.size))
  obtain ⟨T, x, rfl⟩ := ht.iface
  clear HRW ht hb1 HD a2 b2
  go_wp2_with (go_at_call 23; refine HRC.out.mono ?_; rintro e w3 ⟨rfl, hb3⟩)
  go_ret2
  exact ⟨rfl, HB2.out.trans (hb3.mono HB2.out.size)⟩
end Go.Proofs.YthpomflpnmddoaaGreatDoor
