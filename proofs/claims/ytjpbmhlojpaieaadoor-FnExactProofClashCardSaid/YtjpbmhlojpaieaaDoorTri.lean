/- A three as the program's own variable; elements of several cells loaded and stored in a row; rows of such elements that are the call's own. -/
import Derived.Test.YtjpbmhlojpaieaaDoorThree
namespace Go.Proofs.YtjpbmhlojpaieaaDoor
open Go.ChangeShapes Go.WideShapes Go.ChangeAt Go.RowKit

/-- Block g of w is just the variable of type t with the ints P. -/
def Blk (t : TypeId) (w : World) (g : Nat) (P : List Int) : Prop := w.heap[g]? = some (.cells (ints P).toArray t (0, 0))
abbrev Tri (w : World) (g : Nat) (P : List Int) : Prop := Blk 69 w g P

section
variable {w w' : World} {g : Nat} {P : List Int} {t : TypeId}
theorem Blk.lt (h : Blk t w g P) : g < w.heap.size := (Array.getElem?_eq_some_iff.1 h).1
theorem Blk.cell (h : Blk t w g P) {i : Nat} (hi : i < P.length) : w.cell? ⟨g, i, none⟩ = some (.int .i64 (P.getD i 0)) := by
  rw [cell_of_row w g i _ _ (0, 0) h, List.getElem?_toArray, ints_get _ _ hi]
theorem Blk.frozen (h : Blk t w g P) (i : Nat) : w.frozen? ⟨g, i, none⟩ = false := frozen_of_row w g i _ _ h
theorem Blk.drewN (h : Blk t w g P) (n : Nat) : Blk t (w.drewN n) g P := h
theorem Blk.alloc (h : Blk t w g P) (o : Obj) : Blk t (w.alloc o) g P := (Below.heap_alloc w o g h.lt).trans h
theorem Blk.set_ (h : Blk t w g P) (i : Nat) (u : Int) : Blk t (w.setCell ⟨g, i, none⟩ (.int .i64 u)) g (P.set i u) := by
  unfold Blk at h ⊢
  rw [← ints_set, ← List.setIfInBounds_toArray]
  simp [World.setCell, Array.getElem?_modify, h]
theorem Blk.far (h : Blk t w g P) {p : Addr} (hp : g ≠ p.block) (u : Value) : Blk t (w.setCell p u) g P := (Below.heap_setCell w p u g hp).trans h
theorem Blk.below {B : Nat} (h : Blk t w g P) (hb : Below B w w') (hg : g < B) : Blk t w' g P := (hb.block g hg).trans h
theorem Blk.grown {row : Option Nat} (h : Blk t w g P) (hg : w.grownBy w' row) (hne : some g ≠ row) : Blk t w' g P := (hg.block g h.lt hne).trans h
theorem Blk.new (w : World) (P : List Int) : Blk t (w.alloc (.cells (ints P).toArray t)) w.heap.size P := heap_alloc_new w _
end

theorem three_size : (Tryd.prog.info? 69).map (·.size) = some 3 := by kernel_rfl
theorem three_info : (Tryd.prog.info? 69).map (fun i => (i.zero, i.size, i.bytes)) = some (some (.agg #[.int .i64 0, .int .i64 0, .int .i64 0]), 3, 24) := by kernel_rfl
theorem ring_info : (Tryd.prog.info? 39).map (fun i => (i.zero, i.size, i.bytes)) = some (some (.agg #[.int .i64 0, .int .i64 0, .int .i64 0, .int .i64 0, .int .i64 0, .int .i64 0, .int .i64 0]), 7, 56) := by kernel_rfl

/-- A whole three stored into a variable that is one. -/
theorem store_tri {ops : Array Oper} {rest : List Oper} {o : Oper} {a : Act} {w : World} {Q : Exit → Act → World → Prop} (hgd : o.guard = none) (x y : Operand) (ho : o.op = .store 69 x y)
    (g : Nat) (old P : List Int) (hold : old.length = 3) (hP : P.length = 3) (hx : a.eval x = .pointer (some ⟨g, 0, none⟩)) (hy : a.eval y = .agg (ints P).toArray) (hg : Hid (Tri w g old))
    (h : ∀ w', Hid (Tri w' g P) → w.grownBy w' (some g) → w'.heap.size = w.heap.size → wpList Tryd.prog ops Q rest (a.put o.dst undef) w') : wpList Tryd.prog ops Q (o :: rest) a w := by
  refine wpList_store_row hgd 69 x y ho g (ints P).toArray hx hy 69 (ints old).toArray hg.out (by rw [three_size]; simp [hP]) (by simp [hP, hold]) (ints_oneCellB P) (h _ ?_ ?_ ?_)
  · exact setRow_heap w g _ _ _ _ hg.out
  · exact ⟨rfl, rfl, rfl, by simp, fun k _ hk => setRow_other w g k _ (fun e => hk (by simp [e]))⟩
  · simp
theorem load_tri {ops : Array Oper} {rest : List Oper} {o : Oper} {a : Act} {w : World} {Q : Exit → Act → World → Prop} (hgd : o.guard = none) (x : Operand) (ho : o.op = .load 69 x)
    (g : Nat) (P : List Int) (hP : P.length = 3) (hx : a.eval x = .pointer (some ⟨g, 0, none⟩)) (hg : Hid (Tri w g P))
    (h : wpList Tryd.prog ops Q rest (a.put o.dst (.agg (ints P).toArray)) w) : wpList Tryd.prog ops Q (o :: rest) a w :=
  wpList_load_row hgd 69 x ho g hx 69 _ (0, 0) _ hg.out Tryd.underlying69 rfl (by rw [three_size]; simp [hP]) h
theorem results_tri2 {fn : Func} {p t : Tmp} (h : fn.results = #[.cell p 69, .tmp t]) (tmps : Array Value) (w : World) (g : Nat) (P : List Int) (hP : P.length = 3)
    (hp : tmps.getD p undef = .pointer (some ⟨g, 0, none⟩)) (hg : Hid (Tri w g P)) : (results fn tmps).run Tryd.prog w = .ok (.tuple #[.agg (ints P).toArray, tmps.getD t undef]) w := by
  have hp' : tmps[p]?.getD undef = .pointer (some ⟨g, 0, none⟩) := by simpa using hp
  have hl := run_loadVar_row (P := Tryd.prog) w g 69 69 _ (0, 0) _ hg.out Tryd.underlying69 rfl (by rw [three_size]; simp [hP])
  simp [results, h, hp', asAddr, hl]
theorem ret_tri2 {fn : Func} {R : Ending → World → Prop} {a : Act} {w : World} {p t : Tmp} (h : fn.results = #[.cell p 69, .tmp t]) (g : Nat) (P : List Int) (hP : P.length = 3) (hp : a.tmps.getD p undef = .pointer (some ⟨g, 0, none⟩))
    (hg : Hid (Tri w g P)) (hd : a.defers = []) (hR : R (.returned (.tuple #[.agg (ints P).toArray, a.tmps.getD t undef])) w) : bodyPost Tryd.prog fn R .ret a w :=
  bodyPost_ret (results_tri2 h _ _ g P hP hp hg) hd hR

/-! ### An element of several cells in the midst of a block -/
section
variable {P : Program}
theorem run_load_at (w : World) (ty : TypeId) (b o : Nat) (cs : List Value) (d : TypeDesc) (hc : ∀ j u, cs[j]? = some u → w.cell? ⟨b, o + j, none⟩ = some u)
    (hd : (match d with | .struct _ | .array _ _ => true | _ => false) = true) (hu : P.underlying ty = some d) (hi : (P.info? ty).map (·.size) = some cs.length) :
    (loadVar ty ⟨b, o, none⟩).run P w = .ok (.agg cs.toArray) w := by
  have hl : (loadCells ⟨b, o, none⟩ cs.length).run P w = .ok cs.toArray w :=
    run_loadCells_list (P := P) w ⟨b, o, none⟩ cs fun j v hv => by rw [Addr.add_lit]; exact hc j v hv
  cases hq : P.info? ty with
  | none => simp [hq] at hi
  | some i =>
    have hs : i.size = cs.length := by simpa [hq] using hi
    have hagg : (isAgg ty).run P w = .ok true w := by
      unfold isAgg
      rw [Sem.run_bind, run_underlying hu w]
      cases d <;> simp_all
    simp [loadVar, Sem.run_bind, hagg, sizeOf, typeInfo, hq, hs, hl]
theorem wpList_load_at {ops : Array Oper} {rest : List Oper} {o : Oper} {a : Act} {w : World} {Q : Exit → Act → World → Prop} (hgd : o.guard = none) (ty : TypeId) (x : Operand) (ho : o.op = .load ty x)
    (b f : Nat) (cs : List Value) (d : TypeDesc) (hx : a.eval x = .pointer (some ⟨b, f, none⟩)) (hc : ∀ j u, cs[j]? = some u → w.cell? ⟨b, f + j, none⟩ = some u)
    (hd : (match d with | .struct _ | .array _ _ => true | _ => false) = true) (hu : P.underlying ty = some d) (hi : (P.info? ty).map (·.size) = some cs.length)
    (h : wpList P ops Q rest (a.put o.dst (.agg cs.toArray)) w) : wpList P ops Q (o :: rest) a w :=
  wpList_plain hgd fun _ hK => by
    unfold Oper.wp execOp
    simp only [ho, hx, Instr.loadAt, Instr.sureAddr, Sem.run_bind, Sem.run_pure, Result.andThen_ok, run_load_at w ty b f cs d hc hd hu hi]
    exact hK _ _ h
theorem wpList_store_at {ops : Array Oper} {rest : List Oper} {o : Oper} {a : Act} {w : World} {Q : Exit → Act → World → Prop} (hgd : o.guard = none) (ty : TypeId) (x y : Operand) (ho : o.op = .store ty x y)
    (g f : Nat) (cells : Array Value) (hx : a.eval x = .pointer (some ⟨g, f, none⟩)) (hy : a.eval y = .agg cells) (t : TypeId) (cur : Array Value) (hg : w.heap[g]? = some (.cells cur t (0, 0)))
    (hi : (P.info? ty).map (·.size) = some cells.size) (hfit : f + cells.size ≤ cur.size) (h1 : ∀ v ∈ cells.toList, v.oneCell' = true)
    (h : wpList P ops Q rest (a.put o.dst undef) (w.setRow g (cur.toList.take f ++ cells.toList ++ cur.toList.drop (f + cells.size)).toArray)) : wpList P ops Q (o :: rest) a w :=
  wpList_plain hgd fun _ hK => by
    have hs := run_storeCells_at P g f t cells.toList 0 cur w hg (by simpa using hfit) h1
    have hrun : (storeVar ty ⟨g, f, none⟩ (.agg cells)).run P w = .ok () (w.setRow g (cur.toList.take f ++ cells.toList ++ cur.toList.drop (f + cells.size)).toArray) := by
      cases hq : P.info? ty with
      | none => simp [hq] at hi
      | some i =>
        have hsz : cells.size = i.size := by simp [hq] at hi; omega
        simp only [Nat.add_zero, Array.length_toList] at hs
        simp [storeVar, sizeOf, typeInfo, hq, Value.cells, ← hsz, hs]
    unfold Oper.wp execOp
    simp only [ho, hx, hy, Instr.storeAt, Instr.sureAddr, Sem.run_bind, Sem.run_pure, Result.andThen_ok, hrun]
    exact hK _ _ h
end

/-! ### Rows of such elements, the call's own -/

/-- The call's own row of elements of m ints each. -/
def RowN (w : World) (B : Nat) (t : TypeId) (m : Nat) (v : Value) (M : List (List Int)) : Prop :=
  (∀ l ∈ M, l.length = m) ∧ w.ownsRow B t m v M.length (ints M.flatten)

theorem rowK_mem {M : List (List Int)} {k : Nat} (h : k < M.length) : rowK M k ∈ M := by
  simp [rowK, List.getD, h]
theorem flat_length (m : Nat) : ∀ M : List (List Int), (∀ l ∈ M, l.length = m) → M.flatten.length = M.length * m
  | [], _ => by simp
  | l :: M, h => by
    rw [List.flatten_cons, List.length_append, flat_length m M (fun x hx => h x (by simp [hx])), h l (by simp), List.length_cons, Nat.succ_mul]; omega
theorem flat_get (m : Nat) : ∀ (M : List (List Int)) (_ : ∀ l ∈ M, l.length = m) (k j : Nat), k < M.length → j < m → M.flatten[k * m + j]? = (rowK M k)[j]?
  | [], _, k, j, hk, _ => by simp at hk
  | l :: M, h, 0, j, _, hj => by
    simp only [Nat.zero_mul, Nat.zero_add, List.flatten_cons]
    rw [List.getElem?_append_left (by rw [h l (by simp)]; exact hj)]
    rfl
  | l :: M, h, k + 1, j, hk, hj => by
    have hl := h l (by simp)
    rw [List.flatten_cons, List.getElem?_append_right (by rw [hl, Nat.succ_mul]; omega), hl, show (k + 1) * m + j - m = k * m + j by rw [Nat.succ_mul]; omega]
    rw [flat_get m M (fun x hx => h x (by simp [hx])) k j (by simpa using hk) hj]
    rfl
theorem flat_set (m : Nat) : ∀ (M : List (List Int)) (_ : ∀ l ∈ M, l.length = m) (k : Nat) (l' : List Int), k < M.length → l'.length = m → (M.set k l').flatten = M.flatten.take (k * m) ++ l' ++ M.flatten.drop (k * m + m)
  | [], _, k, _, hk, _ => by simp at hk
  | l :: M, h, 0, l', _, hl' => by
    have hl := h l (by simp)
    simp [hl]
  | l :: M, h, k + 1, l', hk, hl' => by
    have hl := h l (by simp)
    rw [List.set_cons_succ, List.flatten_cons, List.flatten_cons, flat_set m M (fun x hx => h x (by simp [hx])) k l' (by simpa using hk) hl']
    have e : (k + 1) * m = l.length + k * m := by rw [Nat.succ_mul, hl]; omega
    rw [e, List.take_length_add_append, Nat.add_assoc, List.drop_length_add_append]
    simp [List.append_assoc]

section
variable {w w' : World} {B m D : Nat} {t : TypeId} {v : Value} {M : List (List Int)}
theorem RowN.lt (h : RowN w B t m v M) : ∀ k, v.ownBlock = some k → B ≤ k ∧ k < w.heap.size := h.2.lt
theorem RowN.slice (h : RowN w B t m v M) : ∃ A c, v = .slice A M.length c := by
  rcases h.2.2 with ⟨e, h0⟩ | ⟨g, cap, cur, e, _⟩
  · exact ⟨none, 0, by rw [e, h0]⟩
  · exact ⟨_, cap, e⟩
theorem RowN.same (h : RowN w B t m v M) (hk : ∀ k, v.ownBlock = some k → w'.heap[k]? = w.heap[k]?) : RowN w' B t m v M := by
  refine ⟨h.1, h.2.1, ?_⟩
  rcases h.2.2 with e | ⟨g, cap, cur, rfl, hb, hg, rest⟩
  · exact .inl e
  · exact .inr ⟨g, cap, cur, rfl, hb, (hk g rfl).trans hg, rest⟩
theorem RowN.below (h : RowN w B t m v M) (hb : Below D w w') (hD : ∀ k, v.ownBlock = some k → k < D) : RowN w' B t m v M := h.same fun k hk => hb.block k (hD k hk)
theorem RowN.grown {row : Option Nat} (h : RowN w B t m v M) (hg : w.grownBy w' row) (hr : ∀ k, v.ownBlock = some k → row ≠ some k) : RowN w' B t m v M :=
  h.same fun k hk => hg.block k (h.lt k hk).2 fun e => hr k hk e.symm
theorem RowN.alloc (h : RowN w B t m v M) (o : Obj) : RowN (w.alloc o) B t m v M := h.same fun k hk => Below.heap_alloc w o k (h.lt k hk).2
theorem RowN.less {B' : Nat} (h : RowN w B t m v M) (hB : B' ≤ B) : RowN w B' t m v M := by
  refine ⟨h.1, h.2.1, ?_⟩
  rcases h.2.2 with e | ⟨g, cap, cur, e, hb, rest⟩
  · exact .inl e
  · exact .inr ⟨g, cap, cur, e, by omega, rest⟩
/-- The element k is there to be loaded. -/
theorem RowN.elem (h : RowN w B t m v M) {k : Nat} (hk : k < M.length) : ∃ g c, v = .slice (some ⟨g, 0, none⟩) M.length c ∧ B ≤ g ∧ g < w.heap.size ∧ M.length ≤ c ∧ c ≤ maxLen ∧ (rowK M k).length = m ∧
    ∀ j u, (ints (rowK M k))[j]? = some u → w.cell? ⟨g, k * m + j, none⟩ = some u := by
  rcases h.2.2 with ⟨_, h0⟩ | ⟨g, c, cur, rfl, hB, hg, hc, hm, hs, ht⟩
  · omega
  · have hrow := h.1 _ (rowK_mem hk)
    refine ⟨g, c, rfl, hB, (Array.getElem?_eq_some_iff.1 hg).1, hc, hm, hrow, fun j u hu => ?_⟩
    have hj : j < m := by
      have := (List.getElem?_eq_some_iff.1 hu).1
      rw [ints_length, hrow] at this
      exact this
    have hlt : k * m + j < M.length * m := by
      have : (k + 1) * m ≤ M.length * m := Nat.mul_le_mul_right _ hk
      rw [Nat.succ_mul] at this; omega
    rw [cell_of_row w g _ cur _ _ hg]
    have e : (ints M.flatten)[k * m + j]? = some u := by
      rw [← hu]
      simp only [ints, List.getElem?_map]
      rw [flat_get m M h.1 k j hk hj]
    rw [← ht, List.getElem?_take, if_pos hlt] at e
    simpa using e
/-- The element k stored anew. -/
theorem RowN.stored {n c g : Nat} (h : RowN w B t m (.slice (some ⟨g, 0, none⟩) n c) M) {k : Nat} (hk : k < M.length) (l' : List Int) (hl : l'.length = m) :
    ∃ cur, w.heap[g]? = some (.cells cur t (0, 0)) ∧ k * m + (ints l').toArray.size ≤ cur.size ∧
      RowN (w.setRow g (cur.toList.take (k * m) ++ (ints l').toArray.toList ++ cur.toList.drop (k * m + (ints l').toArray.size)).toArray) B t m (.slice (some ⟨g, 0, none⟩) n c) (M.set k l') ∧
      w.grownBy (w.setRow g (cur.toList.take (k * m) ++ (ints l').toArray.toList ++ cur.toList.drop (k * m + (ints l').toArray.size)).toArray) (some g) := by
  rcases h.2.2 with ⟨e, _⟩ | ⟨g', c', cur, e, hB, hg, hc, hm, hs, ht⟩
  · cases e
  · injection e with e1 e2 e3
    injection e1 with e1
    injection e1 with e1
    subst e1; subst e3
    have hsz : (ints l').toArray.size = m := by simp [hl]
    have hkm : k * m + m ≤ M.length * m := by
      have : (k + 1) * m ≤ M.length * m := Nat.mul_le_mul_right _ hk
      rw [Nat.succ_mul] at this; exact this
    have hnm : M.length * m ≤ c * m := Nat.mul_le_mul_right _ hc
    rw [hsz]
    refine ⟨cur, hg, by omega, ⟨fun l hl' => ?_, ?_, .inr ⟨g, c, _, by rw [List.length_set, e2], hB, setRow_heap w g cur _ t _ hg, by simpa using hc, hm, ?_, ?_⟩⟩, ⟨rfl, rfl, rfl, by simp, fun i _ hi => setRow_other w g i _ (fun e => hi (by simp [e]))⟩⟩
    · rcases List.mem_or_eq_of_mem_set hl' with h1 | h1
      · exact h.1 l h1
      · rw [h1, hl]
    · rw [ints_length, flat_length m _ (fun l hl' => by
        rcases List.mem_or_eq_of_mem_set hl' with h1 | h1
        · exact h.1 l h1
        · rw [h1, hl])]
    · simp only [List.size_toArray, List.length_append, List.length_take, List.length_drop, Array.length_toList, ints_length, hl]
      omega
    · rw [flat_set m M h.1 k l' hk hl, List.length_set]
      have hf := flat_length m M h.1
      simp only [ints, List.map_append, List.map_take, List.map_drop]
      have ht' : cur.toList.take (M.length * m) = M.flatten.map (Value.int .i64) := ht
      rw [← ht']
      apply List.ext_getElem?
      intro j
      simp only [List.getElem?_take, List.getElem?_append, List.length_append, List.length_take, List.length_map, List.getElem?_drop, Array.length_toList, hl]
      rw [show min (k * m) (min (M.length * m) cur.size) = k * m by omega, show min (k * m) cur.size = k * m by omega]
      repeat' split
      all_goals first | rfl | omega | (congr 1; omega)
end

theorem store_elem {ops : Array Oper} {rest : List Oper} {o : Oper} {a : Act} {w : World} {Q : Exit → Act → World → Prop} (hgd : o.guard = none) (x y : Operand) (t : TypeId) (ho : o.op = .store t x y)
    (g n c B k m : Nat) (M : List (List Int)) (l' : List Int) (h : Hid (RowN w B t m (.slice (some ⟨g, 0, none⟩) n c) M)) (hk : k < M.length) (hl : l'.length = m) (hi : (Tryd.prog.info? t).map (·.size) = some m)
    (hx : a.eval x = .pointer (some ⟨g, k * m, none⟩)) (hy : a.eval y = .agg (ints l').toArray)
    (next : ∀ w', Hid (RowN w' B t m (.slice (some ⟨g, 0, none⟩) n c) (M.set k l')) → w.grownBy w' (some g) → wpList Tryd.prog ops Q rest (a.put o.dst undef) w') : wpList Tryd.prog ops Q (o :: rest) a w := by
  obtain ⟨cur, hg, hfit, hrow, hgr⟩ := h.out.stored hk l' hl
  exact wpList_store_at hgd t x y ho g (k * m) (ints l').toArray hx hy t cur hg (by rw [hi]; simp [hl]) hfit (fun v hv => ints_oneCell l' v (by simpa using hv)) (next _ hrow hgr)
theorem load_elem {ops : Array Oper} {rest : List Oper} {o : Oper} {a : Act} {w : World} {Q : Exit → Act → World → Prop} (hgd : o.guard = none) (x : Operand) (t : TypeId) (ho : o.op = .load t x)
    (d : TypeDesc) (hd : (match d with | .struct _ | .array _ _ => true | _ => false) = true) (hu : Tryd.prog.underlying t = some d) (g n c B k m : Nat) (M : List (List Int)) (h : Hid (RowN w B t m (.slice (some ⟨g, 0, none⟩) n c) M)) (hk : k < M.length) (hi : (Tryd.prog.info? t).map (·.size) = some m)
    (hx : a.eval x = .pointer (some ⟨g, k * m, none⟩))
    (next : wpList Tryd.prog ops Q rest (a.put o.dst (.agg (ints (rowK M k)).toArray)) w) : wpList Tryd.prog ops Q (o :: rest) a w := by
  obtain ⟨g', c', e, _, _, _, _, hlen, hc⟩ := h.out.elem hk
  injection e with e1 _ _
  injection e1 with e1
  injection e1 with e1
  subst e1
  exact wpList_load_at hgd t x ho g (k * m) (ints (rowK M k)) d hx hc hd hu (by rw [hi, ints_length, hlen]) next
end Go.Proofs.YtjpbmhlojpaieaaDoor
