/- TwoR rings of as many points read: readTwo. -/
import Derived.Test.YtphffefkjbgibabDoorMA
import Derived.Test.YtphffefkjbgibabDoorFold
import Derived.StillTailTactics
import Derived.BigRegion
namespace Go.Proofs.YtphffefkjbgibabDoor
open Go.ChangeShapes Go.WideShapes Go.ChangeAt Go.RowKit

/-- TwoR rings of as many points. -/
def TwoR (a b : List Int) : Prop := Ring a ∧ Ring b ∧ a.length = b.length
instance (a b : List Int) : Decidable (TwoR a b) := inferInstanceAs (Decidable (_ ∧ _))
def twoB (a b : List Int) : Bool := decide (TwoR a b)
theorem twoYes {a b : List Int} (h : TwoR a b) : twoB a b = true := by simpa [twoB] using h
theorem twoNo {a b : List Int} (h : ¬ TwoR a b) : twoB a b = false := by simpa [twoB] using h

theorem results_ring3 {fn : Func} {p q t : Tmp} (h : fn.results = #[.cell p 38, .cell q 38, .tmp t]) (tmps : Array Value) (w : World) (g g' : Nat) (P Q : List Int) (hP : P.length = 7) (hQ : Q.length = 7)
    (hp : tmps.getD p undef = .pointer (some ⟨g, 0, none⟩)) (hq : tmps.getD q undef = .pointer (some ⟨g', 0, none⟩)) (hg : Arr w g P) (hg' : Arr w g' Q) :
    (results fn tmps).run Tryd.prog w = .ok (.tuple #[.agg (ints P).toArray, .agg (ints Q).toArray, tmps.getD t undef]) w := by
  have hp' : tmps[p]?.getD undef = .pointer (some ⟨g, 0, none⟩) := by simpa using hp
  have hq' : tmps[q]?.getD undef = .pointer (some ⟨g', 0, none⟩) := by simpa using hq
  simp [results, h, hp', hq', asAddr, run_loadVar_row (P := Tryd.prog) w g 38 38 _ (0, 0) _ hg Tryd.underlying38 rfl (by rw [ring_size]; simp [hP]), run_loadVar_row (P := Tryd.prog) w g' 38 38 _ (0, 0) _ hg' Tryd.underlying38 rfl (by rw [ring_size]; simp [hQ])]
theorem ret_ring3 {fn : Func} {R : Ending → World → Prop} {a : Act} {w : World} {p q t : Tmp} (h : fn.results = #[.cell p 38, .cell q 38, .tmp t]) (g g' : Nat) (P Q : List Int) (hP : P.length = 7) (hQ : Q.length = 7) (hp : a.tmps.getD p undef = .pointer (some ⟨g, 0, none⟩))
    (hq : a.tmps.getD q undef = .pointer (some ⟨g', 0, none⟩)) (hg : Hid (Arr w g P)) (hg' : Hid (Arr w g' Q)) (hd : a.defers = []) (hR : R (.returned (.tuple #[.agg (ints P).toArray, .agg (ints Q).toArray, a.tmps.getD t undef])) w) : bodyPost Tryd.prog fn R .ret a w :=
  bodyPost_ret (results_ring3 h _ _ g g' P Q hP hQ hp hq hg.out hg'.out) hd hR

/-- TwoR new variables of rings, with a ring in each. -/
theorem new_two (W : World) (P Q : List Int) (hP : P.length = 7) (hQ : Q.length = 7) :
    ∃ V1 V, (stR ⟨W.heap.size, 0, none⟩ (.agg (ints P).toArray)).run Tryd.prog ((W.alloc (.cells #[.int .i64 0, .int .i64 0, .int .i64 0, .int .i64 0, .int .i64 0, .int .i64 0, .int .i64 0] 38)).alloc (.cells #[.int .i64 0, .int .i64 0, .int .i64 0, .int .i64 0, .int .i64 0, .int .i64 0, .int .i64 0] 38)) = .ok () V1 ∧
      (stR ⟨W.heap.size + 1, 0, none⟩ (.agg (ints Q).toArray)).run Tryd.prog V1 = .ok () V ∧ Arr V W.heap.size P ∧ Arr V (W.heap.size + 1) Q ∧ Below W.heap.size W V ∧ V.heap.size = W.heap.size + 2 := by
  have N1 : Arr ((W.alloc (.cells #[.int .i64 0, .int .i64 0, .int .i64 0, .int .i64 0, .int .i64 0, .int .i64 0, .int .i64 0] 38)).alloc (.cells #[.int .i64 0, .int .i64 0, .int .i64 0, .int .i64 0, .int .i64 0, .int .i64 0, .int .i64 0] 38)) W.heap.size zero7 := (new_ring W).alloc _
  have N2 : Arr ((W.alloc (.cells #[.int .i64 0, .int .i64 0, .int .i64 0, .int .i64 0, .int .i64 0, .int .i64 0, .int .i64 0] 38)).alloc (.cells #[.int .i64 0, .int .i64 0, .int .i64 0, .int .i64 0, .int .i64 0, .int .i64 0, .int .i64 0] 38)) (W.heap.size + 1) zero7 := by
    have := new_ring (W.alloc (.cells #[.int .i64 0, .int .i64 0, .int .i64 0, .int .i64 0, .int .i64 0, .int .i64 0, .int .i64 0] 38))
    simpa using this
  have hb : Below W.heap.size W ((W.alloc (.cells #[.int .i64 0, .int .i64 0, .int .i64 0, .int .i64 0, .int .i64 0, .int .i64 0, .int .i64 0] 38)).alloc (.cells #[.int .i64 0, .int .i64 0, .int .i64 0, .int .i64 0, .int .i64 0, .int .i64 0, .int .i64 0] 38)) := ((Below.refl _ _).alloc (Nat.le_refl _) _).alloc (by simp) _
  have hs : ((W.alloc (.cells #[.int .i64 0, .int .i64 0, .int .i64 0, .int .i64 0, .int .i64 0, .int .i64 0, .int .i64 0] 38)).alloc (.cells #[.int .i64 0, .int .i64 0, .int .i64 0, .int .i64 0, .int .i64 0, .int .i64 0, .int .i64 0] 38)).heap.size = W.heap.size + 2 := by simp
  generalize (W.alloc (.cells #[.int .i64 0, .int .i64 0, .int .i64 0, .int .i64 0, .int .i64 0, .int .i64 0, .int .i64 0] 38)).alloc (.cells #[.int .i64 0, .int .i64 0, .int .i64 0, .int .i64 0, .int .i64 0, .int .i64 0, .int .i64 0] 38) = W2 at *
  obtain ⟨V1, r1, a1, g1, s1⟩ := stR_run (Q := P) N1 rfl hP
  obtain ⟨V, r2, a2, g2, s2⟩ := stR_run (Q := Q) (N2.grown g1 (by omega)) rfl hQ
  exact ⟨V1, V, r1, r2, a1.grown g2 (by omega), a2, (hb.grown g1 (by omega) (by simp)).grown g2 (by omega) (by simp), by omega⟩
end Go.Proofs.YtphffefkjbgibabDoor
