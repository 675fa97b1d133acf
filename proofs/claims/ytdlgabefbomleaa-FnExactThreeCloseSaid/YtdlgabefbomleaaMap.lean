/- The program's map of threes: which threes are told; a look, a store. -/
import Derived.Test.YtdlgabefbomleaaTri
import Derived.Maps.Own
import Derived.ChangeMaps5
import Derived.DeepKeys4
namespace Go.Proofs.Ytdlgabefbomleaa
open Go.ChangeShapes Go.WideShapes Go.ChangeAt Go.RowKit

/-- A three of small numbers; as a value. -/
def Sm (t : List Int) : Prop := ∃ x y z : Int, t = [x, y, z] ∧ 0 ≤ x ∧ x < 8 ∧ 0 ≤ y ∧ y < 8 ∧ 0 ≤ z ∧ z < 8
abbrev tv (t : List Int) : Value := .agg (ints t).toArray
theorem tv_inj {t u : List Int} (h : tv t = tv u) : t = u := by
  have h1 : (ints t).toArray = (ints u).toArray := by injection h
  have h2 : ints t = ints u := by simpa using congrArg Array.toList h1
  have : ∀ (t u : List Int), ints t = ints u → t = u := by
    intro t
    induction t with
    | nil => intro u hu; cases u with
      | nil => rfl
      | cons y u => simp [ints] at hu
    | cons x t ih => intro u hu; cases u with
      | nil => simp [ints] at hu
      | cons y u =>
        simp only [ints, List.map_cons, List.cons.injEq, Value.int.injEq, true_and] at hu
        rw [hu.1, ih u hu.2]
  exact this t u h2

theorem laidOutT : laidOutB Try.prog = true := by kernel_rfl
theorem three_row : (52 : TypeId) < Try.prog.types.size := of_decide_eq_true (by kernel_rfl)
theorem three_law : WideMaps.KeyLaw Try.prog 52 := deep_law_laid laidOutT (m := 2) (by omega) three_row (by kernel_rfl) (by rw [Try.underlying52])
theorem cells_three' : Try.prog.cellsOf 52 = 3 := by kernel_rfl
theorem three_key {t : List Int} (h : Sm t) : ∃ l, keyOf Try.prog 52 (tv t) = some l := by
  obtain ⟨x, y, z, rfl, hx0, hx1, hy0, hy1, hz0, hz1⟩ := h
  have hw : ∀ n : Int, 0 ≤ n → n < 8 → (Lit.int .i64 n).wf = true := fun n h0 h1 => WalkArith.wf_i64 (by constructor <;> omega)
  have hx := hw x hx0 hx1
  have hy := hw y hy0 hy1
  have hz := hw z hz0 hz1
  have hkt : Try.prog.keyType 52 = true := by kernel_rfl
  obtain ⟨d, hd⟩ : ∃ d, Try.prog.types.size = d + 1 := ⟨Try.prog.types.size - 1, by have h := three_row; have h2 : 0 < Try.prog.types.size := Nat.lt_of_le_of_lt (Nat.zero_le _) h; omega⟩
  have hi : ∀ n : Int, (Lit.int .i64 n).wf = true → Try.prog.keyLits (d + 1) 3 [.int .i64 n] = some [.int .i64 n] := fun n hn => by
    simp [Program.keyLits, Try.underlying3, hn]
  have hk : Try.prog.keyLits (d + 1 + 1) 52 [.int .i64 x, .int .i64 y, .int .i64 z] = some [.int .i64 x, .int .i64 y, .int .i64 z] := by
    unfold Program.keyLits
    simp only [Try.underlying52]
    rw [if_pos ⟨by rw [cells_three']; rfl, by simp⟩]
    simp [List.mapM_cons, cells_int, hi x hx, hi y hy, hi z hz]
  refine ⟨.string (keyBytes [.int .i64 x, .int .i64 y, .int .i64 z]), ?_⟩
  unfold keyOf
  simp only [Try.underlying52]
  have hf : (tv [x, y, z]).formed Try.prog 52 = true := by
    simp [Value.formed, Try.underlying52, cells_three', ints]
  rw [if_pos (by rw [hkt, hf]; rfl)]
  have e : (tv [x, y, z]).cells.toList = [.int .i64 x, .int .i64 y, .int .i64 z] := by simp [Value.cells, ints]
  rw [e, hd, hk]
  rfl

/-- Block b is a map; the threes that it has are those of K, all of them true. -/
def MapK (w : World) (b : Nat) (K : List (List Int)) : Prop :=
  ∃ es clock, w.heap[b]? = some (.map es clock) ∧ (∀ e ∈ es.toList, e.val = .bool true ∧ ∃ t, Sm t ∧ e.key = tv t) ∧ ∀ t, Sm t → (t ∈ K ↔ ∃ e ∈ es.toList, e.key = tv t)

section
variable {w w' : World} {b D : Nat} {K : List (List Int)}
theorem MapK.lt (h : MapK w b K) : b < w.heap.size := by
  obtain ⟨es, clock, hb, _⟩ := h
  exact (Array.getElem?_eq_some_iff.1 hb).1
theorem MapK.same (h : MapK w b K) (hk : w'.heap[b]? = w.heap[b]?) : MapK w' b K := by
  obtain ⟨es, clock, hb, rest⟩ := h
  exact ⟨es, clock, hk.trans hb, rest⟩
theorem MapK.below (h : MapK w b K) (hb : Below D w w') (hD : b < D) : MapK w' b K := h.same (hb.block b hD)
theorem MapK.grown {row : Option Nat} (h : MapK w b K) (hg : w.grownBy w' row) (hr : some b ≠ row) : MapK w' b K := h.same (hg.block b h.lt hr)
theorem MapK.alloc (h : MapK w b K) (o : Obj) : MapK (w.alloc o) b K := h.same (Below.heap_alloc w o b h.lt)
theorem MapK.made (w : World) : MapK (w.alloc (.map #[] 0)) w.heap.size [] :=
  ⟨#[], 0, heap_alloc_new w _, by simp, by simp⟩
theorem MapK.look (h : MapK w b K) {t : List Int} (ht : Sm t) : (Instr.lookup 71 (.map (some b)) (tv t) false).run Try.prog w = .ok (.bool (decide (t ∈ K))) w := by
  obtain ⟨es, clock, hb, hes, hK⟩ := h
  obtain ⟨l, hl⟩ := three_key ht
  have hch := three_law.check w es.isEmpty hl
  have hkeys : ∀ e ∈ es.toList, ∃ l, keyOf Try.prog 52 e.key = some l := fun e he => by
    obtain ⟨_, u, hu, e2⟩ := hes e he
    rw [e2]; exact three_key hu
  have hz : (zeroValue 4).run Try.prog w = .ok (.bool false) w := by kernel_rfl
  have hu : Try.prog.underlying 71 = some (.map 52 4) := Try.underlying71
  rcases three_law.find w hl es.toList hkeys with ⟨hf, hno⟩ | ⟨j, e, hf, he, hkey⟩
  · have hn : ¬ t ∈ K := fun hin => by
      obtain ⟨e, he, e2⟩ := (hK t ht).1 hin
      exact hno e he e2
    have hd : decide (t ∈ K) = false := by simpa using hn
    rw [hd]
    simp [Instr.lookup, run_underlying hu, MapKept.run_getObj_map hb, hch, hf, hz, Result.andThen]
  · have hmem : e ∈ es.toList := List.mem_of_getElem? he
    have hy : t ∈ K := (hK t ht).2 ⟨e, hmem, hkey⟩
    have hd : decide (t ∈ K) = true := by simpa using hy
    have hv := (hes e hmem).1
    rw [hd]
    simp [Instr.lookup, run_underlying hu, MapKept.run_getObj_map hb, hch, hf, hv, Result.andThen]
theorem MapK.store (h : MapK w b K) {t : List Int} (ht : Sm t) (hn : t ∉ K) : ∃ w', (Instr.mapUpdate 71 (.map (some b)) (tv t) (.bool true)).run Try.prog w = .ok () w' ∧ MapK w' b (t :: K) ∧ w.grownBy w' (some b) ∧ w'.heap.size = w.heap.size := by
  obtain ⟨es, clock, hb, hes, hK⟩ := h
  obtain ⟨l, hl⟩ := three_key ht
  have hch := three_law.check w false hl
  have hkeys : ∀ e ∈ es.toList, ∃ l, keyOf Try.prog 52 e.key = some l := fun e he => by
    obtain ⟨_, u, hu, e2⟩ := hes e he
    rw [e2]; exact three_key hu
  have hu : Try.prog.underlying 71 = some (.map 52 4) := Try.underlying71
  rcases three_law.find w hl es.toList hkeys with ⟨hf, hno⟩ | ⟨j, e, hf, he, hkey⟩
  · refine ⟨ChangeMaps.setBlock w b (.map (es.push { key := tv t, val := .bool true, born := clock }) (clock + 1)), ?_, ⟨_, _, ChangeMaps.heap_setBlock_same hb _, fun e he => ?_, fun u hu' => ?_⟩, ⟨rfl, rfl, rfl, by simp [ChangeMaps.setBlock], fun i _ hi => ChangeMaps.heap_setBlock_other hb _ (fun e => hi (by rw [e]))⟩, by simp [ChangeMaps.setBlock]⟩
    · simp [Instr.mapUpdate, run_underlying hu, MapKept.run_getObj_map hb, hch, hf, MapKept.run_setObj_map _ hb, Result.andThen, ChangeMaps.setBlock]
    · simp only [Array.toList_push, List.mem_append, List.mem_singleton] at he
      rcases he with he | rfl
      · exact hes e he
      · exact ⟨rfl, t, ht, rfl⟩
    · simp only [List.mem_cons, Array.toList_push, List.mem_append, List.not_mem_nil, or_false]
      constructor
      · rintro (rfl | hin)
        · exact ⟨_, .inr rfl, rfl⟩
        · obtain ⟨e, he, e2⟩ := (hK u hu').1 hin
          exact ⟨e, .inl he, e2⟩
      · rintro ⟨e, he | rfl, e2⟩
        · exact .inr ((hK u hu').2 ⟨e, he, e2⟩)
        · exact .inl (tv_inj e2).symm
  · exact absurd ((hK t ht).2 ⟨e, List.mem_of_getElem? he, hkey⟩) hn
end

/-- A look-up and a store at the operation. -/
theorem look_op {ops : Array Oper} {rest : List Oper} {o : Oper} {a : Act} {w : World} {Q : Exit → Act → World → Prop} (hgd : o.guard = none) (m x : Operand) (ho : o.op = .lookup 71 m x false)
    (b : Nat) (K : List (List Int)) (t : List Int) (ht : Sm t) (hm : a.eval m = .map (some b)) (hx : a.eval x = tv t) (h : Hid (MapK w b K))
    (next : wpList Try.prog ops Q rest (a.put o.dst (.bool (decide (t ∈ K)))) w) : wpList Try.prog ops Q (o :: rest) a w :=
  wpList_plain hgd fun _ hK => by
    unfold Oper.wp
    simp only [execOp, ho, hm, hx, Sem.run_bind, h.out.look ht, Result.andThen_ok, Sem.run_pure]
    exact hK _ _ next
theorem store_op {ops : Array Oper} {rest : List Oper} {o : Oper} {a : Act} {w : World} {Q : Exit → Act → World → Prop} (hgd : o.guard = none) (m x v : Operand) (ho : o.op = .mapUpdate 71 m x v)
    (b : Nat) (K : List (List Int)) (t : List Int) (ht : Sm t) (hn : t ∉ K) (hm : a.eval m = .map (some b)) (hx : a.eval x = tv t) (hv : a.eval v = .bool true) (h : Hid (MapK w b K))
    (next : ∀ w', Hid (MapK w' b (t :: K)) → w.grownBy w' (some b) → w'.heap.size = w.heap.size → wpList Try.prog ops Q rest (a.put o.dst undef) w') : wpList Try.prog ops Q (o :: rest) a w :=
  wpList_plain hgd fun _ hK => by
    obtain ⟨w', hrun, h1, h2, h3⟩ := h.out.store ht hn
    unfold Oper.wp
    simp only [execOp, ho, hm, hx, hv, Sem.run_bind, hrun, Result.andThen_ok, Sem.run_pure]
    exact hK _ _ (next w' h1 h2 h3)
end Go.Proofs.Ytdlgabefbomleaa
