/- Whole variables of several ints, of whatever type: stored, loaded, given back. -/
import Derived.Test.YtjpbmhlojpaieaaDoorTri
namespace Go.Proofs.YtjpbmhlojpaieaaDoor
open Go.ChangeShapes Go.WideShapes Go.ChangeAt Go.RowKit

theorem ring_size' : (Tryd.prog.info? 39).map (·.size) = some 7 := ring_size
theorem store_blk {ops : Array Oper} {rest : List Oper} {o : Oper} {a : Act} {w : World} {Q : Exit → Act → World → Prop} (hgd : o.guard = none) (t : TypeId) (m : Nat) (hsz : (Tryd.prog.info? t).map (·.size) = some m) (x y : Operand) (ho : o.op = .store t x y)
    (g : Nat) (old P : List Int) (hold : old.length = m) (hP : P.length = m) (hx : a.eval x = .pointer (some ⟨g, 0, none⟩)) (hy : a.eval y = .agg (ints P).toArray) (hg : Hid (Blk t w g old))
    (h : ∀ w', Hid (Blk t w' g P) → w.grownBy w' (some g) → w'.heap.size = w.heap.size → wpList Tryd.prog ops Q rest (a.put o.dst undef) w') : wpList Tryd.prog ops Q (o :: rest) a w := by
  refine wpList_store_row hgd t x y ho g (ints P).toArray hx hy t (ints old).toArray hg.out (by rw [hsz]; simp [hP]) (by simp [hP, hold]) (ints_oneCellB P) (h _ ?_ ?_ ?_)
  · exact setRow_heap w g _ _ _ _ hg.out
  · exact ⟨rfl, rfl, rfl, by simp, fun k _ hk => setRow_other w g k _ (fun e => hk (by simp [e]))⟩
  · simp
theorem load_blk {ops : Array Oper} {rest : List Oper} {o : Oper} {a : Act} {w : World} {Q : Exit → Act → World → Prop} (hgd : o.guard = none) (t : TypeId) (m : Nat) (hsz : (Tryd.prog.info? t).map (·.size) = some m) (d : TypeDesc) (hd : (match d with | .struct _ | .array _ _ => true | _ => false) = true) (hu : Tryd.prog.underlying t = some d)
    (x : Operand) (ho : o.op = .load t x) (g : Nat) (P : List Int) (hP : P.length = m) (hx : a.eval x = .pointer (some ⟨g, 0, none⟩)) (hg : Hid (Blk t w g P))
    (h : wpList Tryd.prog ops Q rest (a.put o.dst (.agg (ints P).toArray)) w) : wpList Tryd.prog ops Q (o :: rest) a w :=
  wpList_load_row hgd t x ho g hx t _ (0, 0) d hg.out hu (by cases d <;> first | rfl | cases hd) (by rw [hsz]; simp [hP]) h
theorem results_blk2 (t : TypeId) (m : Nat) (hsz : (Tryd.prog.info? t).map (·.size) = some m) (d : TypeDesc) (hd : (match d with | .struct _ | .array _ _ => true | _ => false) = true) (hu : Tryd.prog.underlying t = some d) {fn : Func} {p s : Tmp} (h : fn.results = #[.cell p t, .tmp s]) (tmps : Array Value) (w : World) (g : Nat) (P : List Int) (hP : P.length = m)
    (hp : tmps.getD p undef = .pointer (some ⟨g, 0, none⟩)) (hg : Hid (Blk t w g P)) : (results fn tmps).run Tryd.prog w = .ok (.tuple #[.agg (ints P).toArray, tmps.getD s undef]) w := by
  have hp' : tmps[p]?.getD undef = .pointer (some ⟨g, 0, none⟩) := by simpa using hp
  have hl := run_loadVar_row (P := Tryd.prog) w g t t _ (0, 0) d hg.out hu (by cases d <;> first | rfl | cases hd) (by rw [hsz]; simp [hP])
  simp [results, h, hp', asAddr, hl]
theorem ret_blk2 (t : TypeId) (m : Nat) (hsz : (Tryd.prog.info? t).map (·.size) = some m) (d : TypeDesc) (hd : (match d with | .struct _ | .array _ _ => true | _ => false) = true) (hu : Tryd.prog.underlying t = some d) {fn : Func} {R : Ending → World → Prop} {a : Act} {w : World} {p s : Tmp} (h : fn.results = #[.cell p t, .tmp s]) (g : Nat) (P : List Int) (hP : P.length = m) (hp : a.tmps.getD p undef = .pointer (some ⟨g, 0, none⟩))
    (hg : Hid (Blk t w g P)) (hdf : a.defers = []) (hR : R (.returned (.tuple #[.agg (ints P).toArray, a.tmps.getD s undef])) w) : bodyPost Tryd.prog fn R .ret a w :=
  bodyPost_ret (results_blk2 t m hsz d hd hu h _ _ g P hP hp hg) hdf hR
end Go.Proofs.YtjpbmhlojpaieaaDoor
