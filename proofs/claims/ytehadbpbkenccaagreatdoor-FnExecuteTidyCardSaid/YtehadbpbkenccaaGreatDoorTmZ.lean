/- TermIn, TermRow, TermFlat: the program's and the model's; what they answer. -/
import Derived.Test.YtehadbpbkenccaaGreatDoorTmV
namespace Go.Proofs.YtehadbpbkenccaaGreatDoor
open Go.ChangeShapes Go.WideShapes Go.ChangeAt Go.RowKit

theorem rrYes7 (s : ByteArray) (hs : s.size ≤ 1048576) (t : Tm) (h : ringT s.data.toList = some t) : ∃ q0 q1 q2 q3 q4 q5 q6 : Int, Hid (padR (cutL (ptsU t.row) 0) = [q0, q1, q2, q3, q4, q5, q6]) ∧
    Hid (∀ w, Hand w → Calls Tryz.prog 9 #[.string s] w fun e w' => ∃ v, e = .returned (.tuple #[v, ag q0 q1 q2 q3 q4 q5 q6, .bool true]) ∧ TR w' (fun b => b < w'.heap.size) t v ∧ Below w.heap.size w w') := by
  obtain ⟨q0, q1, q2, q3, q4, q5, q6, hQ⟩ := seven (padR_length (cutL (ptsU t.row) 0) (by simpa using (ringT_ok h).2.2.1))
  refine ⟨q0, q1, q2, q3, q4, q5, q6, hQ, fun w hand => ?_⟩
  have := rrYes s w hand hs t h
  have e : QYes t w = fun e w' => ∃ v, e = .returned (.tuple #[v, ag q0 q1 q2 q3 q4 q5 q6, .bool true]) ∧ TR w' (fun b => b < w'.heap.size) t v ∧ Below w.heap.size w w' := by
    funext e w'
    unfold QYes agp
    rw [hQ]
    rfl
  rw [e] at this
  exact this
/-- A new variable with a ring in it. -/
theorem put7 (W : World) (q0 q1 q2 q3 q4 q5 q6 : Int) : ∃ W', (stR ⟨W.heap.size, 0, none⟩ (ag q0 q1 q2 q3 q4 q5 q6)).run Tryz.prog (W.alloc ring0) = .ok () W' ∧ Hid (Arr W' W.heap.size [q0, q1, q2, q3, q4, q5, q6]) ∧ Hid (Below W.heap.size W W') := by
  obtain ⟨W', r, a, b, _, _⟩ := put_ring (w := W) (W := W.alloc ring0) (Q := [q0, q1, q2, q3, q4, q5, q6]) (by simpa using Below.refl (W.heap.size + 1) (W.alloc ring0)) rfl
  exact ⟨W', r, a, b⟩
theorem neg7_ag : Value.agg (ints neg7).toArray = ag (-1) (-1) (-1) (-1) (-1) (-1) (-1) := rfl
theorem rrNo7 (s : ByteArray) (hs : s.size ≤ 1048576) (h : ringT s.data.toList = none) :
    Hid (∀ w, Hand w → Calls Tryz.prog 9 #[.string s] w fun e w' => e = .returned (.tuple #[.nilIface, ag (-1) (-1) (-1) (-1) (-1) (-1) (-1), .bool false]) ∧ Below w.heap.size w w') :=
  fun w hand => rrNo s w hand hs h

/-- A new variable with a term of the model's in it. -/
theorem put9 (W : World) (c : Int) (A : Option Addr) (n d : Nat) : ∃ W', (st9 ⟨W.heap.size, 0, none⟩ (.agg #[.int .u8 c, .slice A n d])).run Tryz.prog (W.alloc z9) = .ok () W' ∧ Hid (V9 W' W.heap.size (.int .u8 c) (.slice A n d)) ∧ Hid (Below W.heap.size W W') := by
  obtain ⟨W', r, a, b, _, _⟩ := fin9 (w := W) (x' := .int .u8 c) (y' := .slice A n d) (V9.new W (.int .u8 0) (.slice none 0 0)) ((Below.refl _ _).alloc (Nat.le_refl _) _) rfl rfl
  exact ⟨W', r, a, b⟩
end Go.Proofs.YtehadbpbkenccaaGreatDoor
