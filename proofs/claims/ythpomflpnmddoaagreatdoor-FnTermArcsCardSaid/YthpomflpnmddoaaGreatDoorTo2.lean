/- TermOf: the program's and the model's. -/
import Derived.Test.YthpomflpnmddoaaGreatDoorTn2
import Derived.Test.YthpomflpnmddoaaGreatDoorMA
import Derived.Test.YthpomflpnmddoaaGreatDoorFold
namespace Go.Proofs.YthpomflpnmddoaaGreatDoor
open Go.ChangeShapes Go.WideShapes Go.ChangeAt Go.RowKit

/-- The letters of points. -/
def letU (x : Int) : UInt8 := UInt8.ofNat (97 + x.toNat)
def lettersU (l : List Int) : List UInt8 := l.map letU
theorem letU_val {x : Int} (h0 : 0 ≤ x) (h7 : x < 7) : ((letU x).toNat : Int) = 97 + x := by
  unfold letU
  rw [UInt8.toNat_ofNat']
  omega
theorem lettersU_take (l : List Int) (k : Nat) (h : k < l.length) : lettersU (l.take (k + 1)) = lettersU (l.take k) ++ [letU (l.getD k 0)] := by
  unfold lettersU
  rw [List.take_succ_eq_append_getElem h, List.map_append]
  simp [List.getD, h]

/-! ### The program's -/
/-- Block g has n bytes; the first ones are those of L. -/
def Row8 (w : World) (g n : Nat) (L : List UInt8) : Prop :=
  ∃ cur, w.heap[g]? = some (.cells cur 5 (0, 0)) ∧ cur.size = n ∧ ∀ j (hj : j < L.length), cur[j]? = some (e8 L[j])
section
variable {w w' : World} {g n D : Nat} {L : List UInt8}
theorem Row8.lt (h : Row8 w g n L) : g < w.heap.size := by obtain ⟨cur, hg, _⟩ := h; exact (Array.getElem?_eq_some_iff.1 hg).1
theorem Row8.cell (h : Row8 w g n L) {j : Nat} (hj : j < n) : ∃ u, w.cell? ⟨g, j, none⟩ = some u := by
  obtain ⟨cur, hg, hs, hr⟩ := h
  refine ⟨cur[j]'(by omega), ?_⟩
  rw [cell_of_row w g j cur _ _ hg]
  exact Array.getElem?_eq_getElem (by omega)
theorem Row8.frozen (h : Row8 w g n L) (j : Nat) : w.frozen? ⟨g, j, none⟩ = false := by
  obtain ⟨cur, hg, hs, hr⟩ := h
  exact frozen_of_row w g j cur _ hg
theorem Row8.step (h : Row8 w g n L) (hL : L.length < n) (c : UInt8) : Row8 (w.setCell ⟨g, L.length, none⟩ (e8 c)) g n (L ++ [c]) := by
  obtain ⟨cur, hg, hs, hr⟩ := h
  refine ⟨cur.setIfInBounds L.length (e8 c), heap_setCell_same w g _ cur _ _ hg, by simpa using hs, fun j hj => ?_⟩
  simp at hj
  rw [Array.getElem?_setIfInBounds]
  by_cases e : L.length = j
  · subst e; rw [if_pos rfl, if_pos (by omega)]; simp
  · rw [if_neg e, hr j (by omega)]; simp [List.getElem_append_left (show j < L.length by omega)]
theorem Row8.str (h : Row8 w g n L) (hL : L.length = n) (c : Nat) : (convert 22 9 (.slice (some ⟨g, 0, none⟩) n c)).run Tryz.prog w = .ok (.string (bs L)) w := by
  subst hL
  refine run_convert_bytes_back (P := Tryz.prog) w 22 9 5 ⟨g, 0, none⟩ c L Tryz.underlying22 Tryz.underlying5 Tryz.underlying9 fun j hj => ?_
  obtain ⟨cur, hg, hs, hr⟩ := h
  rw [Addr.add_lit, Nat.zero_add, cell_of_row w g j cur _ _ hg]
  exact hr j hj
end
theorem u8_info : (Tryz.prog.info? 5).map (fun i => (i.zero, i.size, i.bytes)) = some (some (.int .u8 0), 1, 1) := by kernel_rfl

/-- The text that tells a ring, and whether there is one. -/
def ofR (l : List Int) : List UInt8 := if Ring l then 40 :: (lettersU l ++ [41]) else []
theorem ring_in {l : List Int} (h : Ring l) : ∀ x ∈ l, 0 ≤ x ∧ x < 7 := fun x hx => by
  have := h.1.2.2.1 x hx; have := h.1.2.1; omega

/-! ### The model's -/
/-- The model's own row of bytes. -/
def Out8 (w : World) (B : Nat) (v : Value) (L : List UInt8) : Prop := w.ownsRow B 5 1 v L.length (L.map e8)
/-- An append, by another name. -/
def ap8 (ts : Array TypeId) (ty : TypeId) (args : Array Value) : Sem Value := Builtin.append_ ts ty args
theorem ap8_fold (ts : Array TypeId) (ty : TypeId) (args : Array Value) : Builtin.append_ ts ty args = ap8 ts ty args := rfl
theorem Out8.step {V w : World} {B : Nat} {v : Value} {L : List UInt8} (h : Out8 V B v L) (hb : Below B w V) (hB : B ≤ V.heap.size) (hl : L.length ≤ 3000) (c : UInt8) (x : Int) (hx : (c.toNat : Int) = x) :
    ∃ v' w', (∀ ty, (ap8 #[22, 22] ty #[v, .slice (some ⟨V.heap.size, 0, none⟩) 1 1]).run Tryz.prog (V.alloc (.cells #[.int .u8 x] 5)) = .ok v' w') ∧ Out8 w' B v' (L ++ [c]) ∧ Below B w w' ∧ B ≤ w'.heap.size := by
  subst hx
  obtain ⟨i0, hi, hz0, hz1, hz2⟩ := info_parts u8_info
  obtain ⟨v', w', hrun, hown, hgr, _⟩ := run_append_own (P := Tryz.prog) (V.alloc (.cells #[.int .u8 (c.toNat : Int)] 5)) B 22 22 5 i0 (.int .u8 0) 1 1 Tryz.underlying22 hi hz0 hz1 hz2 rfl (by decide) v L.length (L.map e8) (World.ownsRow.alloc h _) ⟨V.heap.size, 0, none⟩ 1 1 [.int .u8 (c.toNat : Int)] rfl (one_cell V _ _) (by simp [Value.oneCell']) (by unfold maxLen; omega) (by omega) (by simp; omega)
  refine ⟨v', w', fun _ => hrun, ?_, (hb.alloc hB _).grown hgr (by simp; omega) fun k hk => (World.ownsRow.lt h k hk).1, by have := hgr.size; simp at this; omega⟩
  unfold Out8
  simpa [e8] using hown
theorem Out8.str {w : World} {B : Nat} {v : Value} {L : List UInt8} (h : Out8 w B v L) (hp : 0 < L.length) : (convert 22 9 v).run Tryz.prog w = .ok (.string (bs L)) w := by
  obtain ⟨g, cap, rfl, _⟩ : ∃ g cap, v = .slice (some ⟨g, 0, none⟩) L.length cap ∧ True := by
    rcases h.2 with ⟨e, h0⟩ | ⟨g, cap, cur, e, _⟩
    · omega
    · exact ⟨g, cap, e, trivial⟩
  refine run_convert_bytes_back (P := Tryz.prog) w 22 9 5 ⟨g, 0, none⟩ cap L Tryz.underlying22 Tryz.underlying5 Tryz.underlying9 fun j hj => ?_
  exact World.ownsRow.cells h rfl j _ (by simp [hj, e8])
theorem Out8.one (W : World) (c : UInt8) : Out8 (W.alloc (.cells #[.int .u8 (c.toNat : Int)] 5)) W.heap.size (.slice (some ⟨W.heap.size, 0, none⟩) 1 1) [c] :=
  ⟨by simp, .inr ⟨W.heap.size, 1, _, rfl, Nat.le_refl _, heap_alloc_new W _, Nat.le_refl _, by decide, by simp, by simp [e8]⟩⟩

end Go.Proofs.YthpomflpnmddoaaGreatDoor
