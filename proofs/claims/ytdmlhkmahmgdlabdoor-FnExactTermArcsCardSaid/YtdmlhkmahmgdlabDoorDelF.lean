/- slices.DeleteFunc over rows of threes and of rings. -/
import Derived.Test.YtdmlhkmahmgdlabDoorIdxF
namespace Go.Proofs.YtdmlhkmahmgdlabDoor
open Go.ChangeShapes Go.WideShapes Go.ChangeAt Go.RowKit

theorem cells_ring : Tryd.prog.cellsOf 39 = 7 := by kernel_rfl
theorem zero_ring (w : World) : (zeroValue 39).run Tryd.prog w = .ok (.agg #[.int .i64 0, .int .i64 0, .int .i64 0, .int .i64 0, .int .i64 0, .int .i64 0, .int .i64 0]) w := by kernel_rfl

theorem headN (S t : Nat) (he : Tryd.prog.elem S = t) (hu : Tryd.prog.underlying S = some (.slice t)) (i : TypeInfo) (hi : Tryd.prog.info? t = some i) (W : World) (g n c k : Nat) (hk : k ≤ c) :
    (Instr.slice S (.slice (some ⟨g, 0, none⟩) n c) none (some (.int .i64 (k : Int))) none).run Tryd.prog W = .ok (.slice (some ⟨g, 0, none⟩) k c) W := by
  have h := run_slice_h (P := Tryd.prog) W S (some ⟨g, 0, none⟩) n c (by rw [he]; exact hu) .i64 (k : Int) (by omega) (by omega)
  rw [h, he, run_sizeOf W hi, Result.andThen_ok]
  simp [sliced, Addr.add]
theorem tailN (S t m : Nat) (he : Tryd.prog.elem S = t) (hu : Tryd.prog.underlying S = some (.slice t)) (i : TypeInfo) (hi : Tryd.prog.info? t = some i) (hc : Tryd.prog.cellsOf t = m) (W : World) (g n c k : Nat) (hk : k ≤ n) :
    (Instr.slice S (.slice (some ⟨g, 0, none⟩) n c) (some (.int .i64 (k : Int))) none none).run Tryd.prog W = .ok (.slice (some (if c = k then ⟨g, 0, none⟩ else ⟨g, k * m, none⟩)) (n - k) (c - k)) W := by
  have h := run_slice_l (P := Tryd.prog) W S (some ⟨g, 0, none⟩) n c (by rw [he]; exact hu) .i64 (k : Int) (by omega) (by omega)
  rw [h, he, run_sizeOf W hi, Result.andThen_ok, hc]
  by_cases e : c = k
  · simp [sliced, e]
  · simp [sliced, e, Addr.add_lit]

theorem oneCell_zeros (z : Array Value) (h : ∀ v ∈ z.toList, v.oneCell' = true) (hz : 0 < z.size) (n : Nat) : ∀ v ∈ (Builtin.zeroCells z n).toList, v.oneCell' = true := by
  intro v hv
  simp only [Builtin.zeroCells, Array.toList_map, Array.toList_range, List.mem_map, List.mem_range] at hv
  obtain ⟨j, _, rfl⟩ := hv
  have hlt := Nat.mod_lt j hz
  rw [getElem!_pos z _ hlt]
  exact h _ (by simp)

set_option maxRecDepth 10000 in
/-- The tail of a row cleared: what is left ahead of it is a row. -/
theorem wpList_clearN {ops : Array Oper} {rest : List Oper} {o : Oper} {a : Act} {w : World} {Q : Exit → Act → World → Prop} (hgd : o.guard = none) (x : Operand) (S t m : Nat) (ho : o.op = .call { callee := .builtin .clear, args := #[x], argTypes := #[S] })
    (hS : Tryd.prog.underlying S = some (.slice t)) (z : Value) (hz : ∀ w, (zeroValue t).run Tryd.prog w = .ok z w) (hzs : z.cells.size = m) (hm : 0 < m) (hz1 : ∀ v ∈ z.cells.toList, v.oneCell' = true)
    (g n c i D : Nat) (X : List (List Int)) (hX : Hid (RowN w D t m (.slice (some ⟨g, 0, none⟩) n c) X)) (hXn : X.length = n) (hin : i ≤ n)
    (ad : Addr) (had : Hid ((if c = i then ⟨g, 0, none⟩ else ⟨g, i * m, none⟩) = ad)) (hx : a.eval x = .slice (some ad) (n - i) (c - i))
    (h : ∀ w', Hid (RowN w' D t m (.slice (some ⟨g, 0, none⟩) i c) (X.take i)) → w.grownBy w' (some g) → wpList Tryd.prog ops Q rest (a.put o.dst (.tuple #[])) w') : wpList Tryd.prog ops Q (o :: rest) a w :=
  wpList_plain hgd fun _ hK => by
    have h0 := hX.out
    have had := had.out
    subst had
    rcases h0.2.2 with ⟨e, _⟩ | ⟨g', c', cur, e, hB, hg, hc, hcm, hs, ht⟩
    · cases e
    · injection e with e1 e2 e3
      injection e1 with e1
      injection e1 with e1
      subst e1; subst e3; subst hXn
      have hrows : ∀ l ∈ X.take i, l.length = m := fun l hl => h0.1 l (List.mem_of_mem_take hl)
      have hxl : (X.take i).length = i := by simp; omega
      have him : i * m ≤ X.length * m := Nat.mul_le_mul_right _ hin
      have hcm' : X.length * m ≤ c * m := Nat.mul_le_mul_right _ hc
      have hfl : (X.take i).flatten.length = i * m := by rw [flat_length m _ hrows, hxl]
      have hfx : X.flatten.take (i * m) = (X.take i).flatten := by
        conv => lhs; rw [← List.take_append_drop i X, List.flatten_append]
        exact List.take_left' hfl
      have rowOf : ∀ (w' : World) (cur' : Array Value), w'.heap[g]? = some (.cells cur' t (0, 0)) → cur'.size = cur.size → cur'.toList.take (i * m) = cur.toList.take (i * m) → RowN w' D t m (.slice (some ⟨g, 0, none⟩) i c) (X.take i) := fun w' cur' hg' hs' ht' => by
        refine ⟨hrows, by rw [hxl, ints_length, hfl], .inr ⟨g, c, cur', by rw [hxl], hB, hg', by rw [hxl]; omega, hcm, by rw [hs', hs], ?_⟩⟩
        rw [hxl, ht']
        have : cur.toList.take (i * m) = (cur.toList.take (X.length * m)).take (i * m) := by rw [List.take_take, Nat.min_eq_left him]
        rw [this, ht, ← hfx]
        simp [ints]
      by_cases hni : X.length - i = 0
      · have hrun : (Builtin.clear_ #[S] o.type #[.slice (some (if c = i then (⟨g, 0, none⟩ : Addr) else ⟨g, i * m, none⟩)) 0 (c - i)]).run Tryd.prog w = .ok (.tuple #[]) w := by
          simp [Builtin.clear_, run_underlying hS]
        rw [hni] at hx
        unfold Oper.wp execOp
        simp only [ho, resolve, invoke, builtin, Sem.run_bind, Sem.run_pure, Result.andThen_ok, List.map_toArray, List.map_cons, List.map_nil, hx, hrun]
        exact hK _ _ (h w (rowOf w cur hg rfl rfl) (World.grownBy.refl _ _))
      · have hci : ¬ c = i := by omega
        rw [if_neg hci] at hx
        obtain ⟨d, hd⟩ : ∃ d, X.length - i = d + 1 := ⟨X.length - i - 1, by omega⟩
        have hzl : (Builtin.zeroCells z.cells (X.length - i)).toList.length = (X.length - i) * m := by rw [Array.length_toList, size_zeroCells, hzs]
        have hsum : i * m + (X.length - i) * m = X.length * m := by rw [← Nat.add_mul]; congr 1; omega
        have hst := run_storeCells_at Tryd.prog g (i * m) t (Builtin.zeroCells z.cells (X.length - i)).toList 0 cur w hg (by rw [hzl]; omega) (oneCell_zeros z.cells hz1 (by omega) _)
        have hrun : (Builtin.clear_ #[S] o.type #[.slice (some (⟨g, i * m, none⟩ : Addr)) (X.length - i) (c - i)]).run Tryd.prog w = .ok (.tuple #[]) (w.setRow g (cur.toList.take (i * m + 0) ++ (Builtin.zeroCells z.cells (X.length - i)).toList ++ cur.toList.drop (i * m + 0 + (Builtin.zeroCells z.cells (X.length - i)).toList.length)).toArray) := by
          rw [hd] at hst ⊢
          simp [Builtin.clear_, run_underlying hS, hz, hst]
        unfold Oper.wp execOp
        simp only [ho, resolve, invoke, builtin, Sem.run_bind, Sem.run_pure, Result.andThen_ok, List.map_toArray, List.map_cons, List.map_nil, hx, hrun]
        refine hK _ _ (h _ (rowOf _ _ (setRow_heap w g cur _ t _ hg) ?_ ?_) ⟨rfl, rfl, rfl, by simp, fun i _ hi => setRow_other w g i _ (fun e => hi (by simp [e]))⟩)
        · simp only [List.size_toArray, List.length_append, List.length_take, List.length_drop, hzl, Array.length_toList]
          omega
        · simp only [Nat.add_zero]
          rw [List.append_assoc, List.take_append_of_le_length (by rw [List.length_take, Array.length_toList]; omega), List.take_take, Nat.min_self]


end Go.Proofs.YtdmlhkmahmgdlabDoor
