/- Worlds of the program's methods, cuts and copies of arrays (for a seat without the texts Next, Back, Drop). -/
import Derived.Test.YtnepagdfhoefpabHas
import Derived.StillTailTactics
import Derived.Laws.CopyOwn
import Derived.IntWalk
namespace Go.Proofs.Ytnepagdfhoefpab
open Go.ChangeShapes Go.WideShapes Go.ChangeAt Go.RowKit

theorem box_world (w : World) (c : Array Value) (P : List Int) (hc : c = (ints P).toArray) (W : World) (hW : W = w.alloc (.cells c 43)) :
    Arr W w.heap.size P ∧ Below w.heap.size w W ∧ W.heap.size = w.heap.size + 1 := by
  subst hc; subst hW
  exact ⟨heap_alloc_new w _, (Below.refl _ _).alloc (Nat.le_refl _) _, by simp⟩

/-- The world of back before its loop: the box, the room for the result, a callee's box, the copy. -/
theorem back_world (w : World) (c z : Array Value) (P Z : List Int) (hc : c = (ints P).toArray) (hz : z = (ints Z).toArray) (W : World)
    (hW : W = (((w.alloc (.cells c 43)).alloc (.cells z 43)).alloc (.cells c 43)).alloc (.cells c 43)) :
    Arr W w.heap.size P ∧ Arr W (w.heap.size + 1) Z ∧ Arr W (w.heap.size + 1 + 1 + 1) P ∧ Below w.heap.size w W ∧ W.heap.size = w.heap.size + 4 := by
  subst hc; subst hz; subst hW
  refine ⟨?_, ?_, ?_, ?_, by simp⟩
  · have h : Arr (w.alloc (.cells (ints P).toArray 43)) w.heap.size P := heap_alloc_new w _
    exact ((h.alloc _).alloc _).alloc _
  · have h : Arr ((w.alloc (.cells (ints P).toArray 43)).alloc (.cells (ints Z).toArray 43)) (w.heap.size + 1) Z := heap_alloc2_new w _ _
    exact (h.alloc _).alloc _
  · have := heap_alloc_new (((w.alloc (.cells (ints P).toArray 43)).alloc (.cells (ints Z).toArray 43)).alloc (.cells (ints P).toArray 43)) (.cells (ints P).toArray 43)
    simp only [World.alloc, Array.size_push] at this ⊢
    exact this
  · exact ((((Below.refl _ _).alloc (Nat.le_refl _) _).alloc (by simp) _).alloc (by simp; omega) _).alloc (by simp; omega) _

/-- A cut of an array from a place on. -/
theorem slice_ring3 (W : World) (b m : Nat) (hm : m ≤ 7) :
    ∃ ad : Addr, (m < 7 → ad = ⟨b, m, none⟩) ∧
    (Instr.sliceAt 43 (.pointer (some ⟨b, 0, none⟩)) (some (.int .i64 (m : Int))) none none).run Try.prog W = .ok (.slice (some ad) (7 - m) (7 - m)) W := by
  obtain ⟨i, hi, _, hs, _⟩ := info_parts int_info
  have hal : Try.prog.arrayLen 43 = 7 := by kernel_rfl
  have hel : Try.prog.elem 43 = 3 := by kernel_rfl
  have h := run_sliceAt_array_l (P := Try.prog) W 43 ⟨b, 0, none⟩ (by rw [hal, hel]; exact Try.underlying43) .i64 (m : Int) (by omega) (by rw [hal]; omega)
  have hc : Try.prog.cellsOf 3 = 1 := cells_int
  refine ⟨if 7 = m then ⟨b, 0, none⟩ else (⟨b, 0, none⟩ : Addr).add (m * 1), fun hlt => ?_, ?_⟩
  · rw [if_neg (by omega), Nat.mul_one, Addr.add_lit, Nat.zero_add]
  · rw [h, hel, run_sizeOf W hi, Result.andThen_ok, hal, hc]
    simp [slicedAt]


/-- copy between two places of one array. -/
theorem copy_ring {ops : Array Oper} {rest : List Oper} {o : Oper} {a : Act} {w : World} {Q : Exit → Act → World → Prop} (hgd : o.guard = none) (d s : Operand)
    (ho : o.op = .call { callee := .builtin .copy, args := #[d, s], argTypes := #[22, 22] }) (g p q m : Nat) (P : List Int) (h7 : P.length = 7)
    (dp sp : Addr) (dLen dCap sLen sCap : Nat) (hd : a.eval d = .slice (some dp) dLen dCap) (hs : a.eval s = .slice (some sp) sLen sCap) (hm : m = Nat.min sLen dLen)
    (hpos : 0 < m → dp = ⟨g, p, none⟩ ∧ sp = ⟨g, q, none⟩) (hp : p + m ≤ 7) (hq : q + m ≤ 7) (hg : Hid (Arr w g P))
    (h : ∀ w', Hid (Arr w' g (P.take p ++ ((P.drop q).take m ++ P.drop (p + m)))) → w.grownBy w' (some g) → w'.heap.size = w.heap.size → wpList Try.prog ops Q rest (a.put o.dst (goInt m)) w') :
    wpList Try.prog ops Q (o :: rest) a w := by
  by_cases h0 : m = 0
  · subst h0
    refine wpList_copy_nothing hgd d s 22 22 ho 3 Try.underlying22 int_size _ _ dLen dCap sLen sCap hd hs hm.symm ?_
    refine h w ?_ (World.grownBy.refl _ _) rfl
    rw [List.take_zero, List.nil_append, Nat.add_zero, List.take_append_drop]
    exact hg
  · obtain ⟨rfl, rfl⟩ := hpos (by omega)
    have hl : (ints ((P.drop q).take m)).length = m := by simp; omega
    have hh := wpList_copy_own hgd d s 22 22 ho 3 Try.underlying22 int_size g p dLen dCap ⟨g, q, none⟩ sLen sCap hd hs (ints P).toArray 43 hg.out (ints ((P.drop q).take m)) (by rw [hl]; exact hm)
      (fun j v hv => by
        have hj : j < m := by
          have := (List.getElem?_eq_some_iff.1 hv).1
          omega
        rw [Addr.add_lit, hg.out.cell (by omega), ← hv, ints_get _ _ (by simp; omega)]
        simp [List.getD, hj])
      (by rw [hl]; simp; omega) (ints_oneCell _) (rest := rest) (Q := Q) (ops := ops) (P := Try.prog)
    rw [hl] at hh
    refine hh (h _ ?_ ?_ ?_)
    · have e : ((ints P).toArray.toList.take p ++ (ints ((P.drop q).take m) ++ (ints P).toArray.toList.drop (p + m))) = ints (P.take p ++ ((P.drop q).take m ++ P.drop (p + m))) := by
        simp [ints, List.map_take, List.map_drop]
      rw [e]
      exact setRow_heap w g _ _ _ _ hg.out
    · exact ⟨rfl, rfl, rfl, by simp, fun k _ hk => setRow_other w g k _ (fun e => hk (by simp [e]))⟩
    · simp

end Go.Proofs.Ytnepagdfhoefpab
