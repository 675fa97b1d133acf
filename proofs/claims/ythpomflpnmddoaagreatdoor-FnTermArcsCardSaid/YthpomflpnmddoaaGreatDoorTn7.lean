/- TermRing: the program's and the model's. -/
import Derived.Test.YthpomflpnmddoaaGreatDoorTn1
import Derived.Test.YthpomflpnmddoaaGreatDoorMA
namespace Go.Proofs.YthpomflpnmddoaaGreatDoor
open Go.ChangeShapes Go.WideShapes Go.ChangeAt Go.RowKit

theorem Hand.turn {w w' : World} {B C : Nat} (h : Hand w) (ht : Turn B C w w') (hB : 0 + 1 ≤ B) : Hand w' := h.below (below_turn (Below.refl (0 + 1) w) ht hB h.1) (Nat.lt_succ_self _)
/-- The ring that a text tells, and whether there is one. -/
def tringR (l : List UInt8) : List Int := match ringT l with | none => [] | some t => cutL (ptsU t.row) 0
def tringB (l : List UInt8) : Bool := (ringT l).isSome
theorem tringR_length (l : List UInt8) : (tringR l).length ≤ 7 := by
  unfold tringR
  rcases h : ringT l with _ | t
  · simp
  · have := (ringT_ok h).2.2.1; simpa using this

attribute [local go_sem ↓] ldR_fold stR_fold in
theorem tringI_no (s : ByteArray) (w : World) (hand : Hand w) (hs : s.size ≤ 1048576) (h : ringT s.data.toList = none) : Calls Tryz.prog 8 #[.string s] w fun e w' => ∃ v, e = .returned (.tuple #[v, .bool false]) ∧ Own w' w.heap.size v [] ∧ Below w.heap.size w w' := by
  have HD := Lib.hid ((rrNo7 s hs h).out w hand)
  clear h
  go_enter Tryz.func8, Tryz.ntmps8
  go_wp2_with (go_at_call 12; refine HD.out.mono ?_; rintro e w1 ⟨rfl, hb1⟩; obtain ⟨W2, r2, a2, b2⟩ := put7 w1 (-1) (-1) (-1) (-1) (-1) (-1) (-1))
  go_ret2
  exact ⟨_, rfl, ⟨rfl, .inl ⟨rfl, rfl⟩⟩, hb1.trans (b2.out.mono hb1.size)⟩
attribute [local go_sem ↓] ldR_fold stR_fold in
theorem tringI_yes (s : ByteArray) (w : World) (hand : Hand w) (hs : s.size ≤ 1048576) (t : Tm) (h : ringT s.data.toList = some t) : Calls Tryz.prog 8 #[.string s] w fun e w' => ∃ v, e = .returned (.tuple #[v, .bool true]) ∧ Own w' w.heap.size v (cutL (ptsU t.row) 0) ∧ Below w.heap.size w w' := by
  have hT := (ringT_ok h).2
  obtain ⟨q0, q1, q2, q3, q4, q5, q6, hQ, HC⟩ := rrYes7 s hs t h
  have HD := Lib.hid (HC.out w hand)
  have hcl : (cutL (ptsU t.row) 0).length = (ptsU t.row).length := cutL_length _ _
  have hpos : ∀ x ∈ cutL (ptsU t.row) 0, 0 ≤ x := by
    intro x hx
    have h3 := hT.1
    unfold cutL at hx
    obtain ⟨i, hi, rfl⟩ := List.mem_map.1 hx
    have hlt : ((ptsU t.row).idxOf 0 + i) % (ptsU t.row).length < (ptsU t.row).length := Nat.mod_lt _ (by omega)
    exact (hT.2.2.1 _ (getD_mem _ _ hlt)).1
  have HLI := fun W => list_any (cutL (ptsU t.row) 0) W (by rw [hcl]; have := hT.1; omega) (by rw [hcl]; exact hT.2.1) hpos
  simp only [agp] at HLI
  rw [hQ.out] at HLI
  simp only [ints, List.map_cons, List.map_nil] at HLI
  have HL := Lib.hid HLI
  clear HC h hcl hpos hT HLI
  go_enter Tryz.func8, Tryz.ntmps8
  go_wp2_with fail
  refine HD.out.mono ?_
  rintro e w1 ⟨v, rfl, ht, hb1⟩
  obtain ⟨W2, r2, a2, b2⟩ := put7 w1 q0 q1 q2 q3 q4 q5 q6
  have r8 := ldR_run a2.out rfl
  simp only [ints, List.map_cons, List.map_nil] at r8
  have HB2 := Lib.hid (hb1.trans (b2.out.mono hb1.size))
  clear ht hb1 HD a2 b2
  go_wp2_with (go_at_call 22; refine (HL.out W2).mono ?_; rintro e w3 ⟨v3, rfl, ho, hb3⟩)
  go_ret2
  exact ⟨_, rfl, own_less ho HB2.out.size, HB2.out.trans (hb3.mono HB2.out.size)⟩
theorem tringI_law (H : Nat) (s : ByteArray) (W : World) (_hH : H ≤ W.heap.size) (hn : s.size ≤ 1048576) (hand : Hand W) : Calls Tryz.prog 8 #[.string s] W fun e w' => ∃ v, e = .returned (.tuple #[v, .bool (tringB s.data.toList)]) ∧ Own w' W.heap.size v (tringR s.data.toList) ∧ Below W.heap.size W w' := by
  unfold tringB tringR
  rcases h : ringT s.data.toList with _ | t
  · exact tringI_no s W hand hn h
  · exact tringI_yes s W hand hn t h
end Go.Proofs.YthpomflpnmddoaaGreatDoor
