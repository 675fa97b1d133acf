/- ThreeBack of the program. -/
import Derived.Test.YtjpbmhlojpaieaaDoorBackT3
namespace Go.Proofs.YtjpbmhlojpaieaaDoor
open Go.ChangeShapes Go.WideShapes Go.ChangeAt Go.RowKit

theorem results_tri {fn : Func} {p : Tmp} (h : fn.results = #[.cell p 69]) (tmps : Array Value) (w : World) (g : Nat) (P : List Int) (hP : P.length = 3)
    (hp : tmps.getD p undef = .pointer (some ⟨g, 0, none⟩)) (hg : Hid (Tri w g P)) : (results fn tmps).run Tryd.prog w = .ok (.agg (ints P).toArray) w :=
  results_cell_row h _ _ g 69 _ (0, 0) _ hp hg.out Tryd.underlying69 rfl (by rw [three_size]; simp [hP])
theorem ret_tri {fn : Func} {R : Ending → World → Prop} {a : Act} {w : World} {p : Tmp} (h : fn.results = #[.cell p 69]) (g : Nat) (P : List Int) (hP : P.length = 3) (hp : a.tmps.getD p undef = .pointer (some ⟨g, 0, none⟩))
    (hg : Hid (Tri w g P)) (hd : a.defers = []) (hR : R (.returned (.agg (ints P).toArray)) w) : bodyPost Tryd.prog fn R .ret a w :=
  bodyPost_ret (results_tri h _ _ g P hP hp hg) hd hR

set_option maxRecDepth 10000 in
theorem tback_any (x y z : Int) (w : World) :
    Calls Tryd.prog 68 #[.agg (ints [x, y, z]).toArray] w fun e w' => e = .returned (.agg (ints [x, z, y]).toArray) ∧ Below w.heap.size w w' := by
  change Calls Tryd.prog 68 #[.agg #[.int .i64 x, .int .i64 y, .int .i64 z]] w _
  have hn := Blk.new (t := 69) (w.alloc (.cells (ints [x, y, z]).toArray 69)) [x, z, y]
  rw [show (w.alloc (.cells (ints [x, y, z]).toArray 69)).heap.size = w.heap.size + 1 by simp] at hn
  have HN := Lib.hid hn
  clear hn
  go_enter Tryd.func68, Tryd.ntmps68
  go_wp2
  exact ret_tri rfl (w.heap.size + 1) [x, z, y] rfl rfl HN rfl ⟨rfl, ((Below.refl _ _).alloc (Nat.le_refl _) _).alloc (by simp) _⟩

def mixB (L : List (List Int)) (k : Nat) : List (List Int) := back3 (L.take k) ++ L.drop k
theorem mixB_length (L : List (List Int)) (k : Nat) (h : k ≤ L.length) : (mixB L k).length = L.length := by simp [mixB, back3]; omega
theorem mixB_row (L : List (List Int)) (k : Nat) (h : k < L.length) : rowK (mixB L k) k = rowK L k := by
  have hl : (back3 (L.take k)).length = k := by simp [back3]; omega
  simp only [rowK, List.getD, mixB]
  rw [List.getElem?_append_right (by omega), hl, Nat.sub_self, List.getElem?_drop, Nat.add_zero]
theorem mixB_step (L : List (List Int)) (k : Nat) (h : k < L.length) : (mixB L k).set k (turn3 (rowK L k)) = mixB L (k + 1) := by
  have hl : (back3 (L.take k)).length = k := by simp [back3]; omega
  unfold mixB
  rw [List.set_append_right _ _ (by omega), hl, Nat.sub_self, List.drop_eq_getElem_cons h, List.set_cons_zero, ← back3_step L k h, List.append_assoc]
  rfl
theorem back3_row3 (L : List (List Int)) : ∀ l ∈ back3 L, l.length = 3 := fun l hl => by
  simp only [back3, List.mem_map] at hl
  obtain ⟨m, _, rfl⟩ := hl
  rfl

end Go.Proofs.YtjpbmhlojpaieaaDoor
