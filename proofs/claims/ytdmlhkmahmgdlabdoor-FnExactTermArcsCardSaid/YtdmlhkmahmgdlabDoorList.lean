/- Lists that the model and the program make: a list cut at a point, an array's list. -/
import Derived.Test.YtdmlhkmahmgdlabDoorRing
import Derived.Maps.AppendAt
import Derived.Lib.SliceRun
namespace Go.Proofs.YtdmlhkmahmgdlabDoor
open Go.ChangeShapes Go.WideShapes Go.ChangeAt Go.RowKit

theorem own_empty (w : World) (B : Nat) (hB : B ≤ w.heap.size) : Own (w.alloc (.cells #[] 3)) B (.slice (some ⟨w.heap.size, 0, none⟩) 0 0) [] :=
  World.ownsRow_lit w #[] 0 hB (by unfold maxLen; omega) rfl

theorem own_less {w : World} {B B' : Nat} {v : Value} {l : List Int} (h : Own w B v l) (hB : B' ≤ B) : Own w B' v l := by
  refine ⟨h.1, ?_⟩
  rcases h.2 with h | ⟨g, cap, cur, hv, hg, r⟩
  · exact .inl h
  · exact .inr ⟨g, cap, cur, hv, Nat.le_trans hB hg, r⟩

theorem own_below {w w' : World} {B : Nat} {v : Value} {k : Nat} {xs : List Value} {a : World} {o : Obj} (hown : w.ownsRow B 3 1 v k xs) (hb : Below B a w) (hB : B ≤ w.heap.size)
    (hg : (w.alloc o).grownBy w' v.ownBlock) : Below B a w' :=
  (hb.alloc hB o).grown hg (by simp; omega) fun k hk => (hown.lt k hk).1

theorem one_cell (w : World) (y : Value) (t : TypeId) : ∀ j u, [y][j]? = some u → (w.alloc (.cells #[y] t)).cell? ((⟨w.heap.size, 0, none⟩ : Addr).add j) = some u := cell_one_new w y t

theorem take_snoc (l : List Int) (k : Nat) (h : k < l.length) : ints (l.take k) ++ [.int .i64 (l.getD k 0)] = ints (l.take (k + 1)) := by
  rw [List.take_succ_eq_append_getElem h, ints, ints, List.map_append]
  simp [List.getD, h]

theorem rd_cells {w : World} {H b o n : Nat} {l : List Int} (h : Rd w H (some ⟨b, o, none⟩) n l) : ∀ j u, (ints l)[j]? = some u → w.cell? ((⟨b, o, none⟩ : Addr).add j) = some u := by
  intro j u hu
  have hj : j < l.length := by
    have := (List.getElem?_eq_some_iff.1 hu).1
    simpa using this
  have hn : j < n := by rw [← h.len]; exact hj
  obtain ⟨b', o', e, _, hc⟩ := h.at_ (by omega)
  injection e with e
  injection e with e1 e2 _
  subst e1; subst e2
  rw [Addr.add_lit, hc j hn, ← hu, ints_get _ _ hj]

/-- A cut of an array up to a length. -/
theorem slice_ring (W : World) (b n : Nat) (hn : n ≤ 7) :
    (Instr.sliceAt 39 (.pointer (some ⟨b, 0, none⟩)) none (some (.int .i64 (n : Int))) none).run Tryd.prog W = .ok (.slice (some ⟨b, 0, none⟩) n 7) W := by
  obtain ⟨i, hi, _, hs, _⟩ := info_parts int_info
  have hal : Tryd.prog.arrayLen 39 = 7 := by kernel_rfl
  have hel : Tryd.prog.elem 39 = 3 := by kernel_rfl
  have h := run_sliceAt_array_h (P := Tryd.prog) W 39 ⟨b, 0, none⟩ (by rw [hal, hel]; exact Tryd.underlying39) .i64 (n : Int) (by omega) (by rw [hal]; omega)
  rw [h, hel, run_sizeOf W hi, Result.andThen_ok, hal]
  simp [slicedAt, Addr.add]

end Go.Proofs.YtdmlhkmahmgdlabDoor
