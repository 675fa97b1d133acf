/- merged -/
import Derived.Test.YthefnanhikjddaaDoorPE
import Derived.Maps.Own
import Derived.ChangeMaps5
import Derived.DeepKeys4
import Derived.Test.YthefnanhikjddaaDoorClo
import Derived.Test.YthefnanhikjddaaDoorCC
import Derived.Deep.LoopGhost
namespace Go.Proofs.YthefnanhikjddaaDoor
open Go.ChangeShapes Go.WideShapes Go.ChangeAt Go.RowKit

/-- A three of small numbers; as a value. -/
def Sm (t : List Int) : Prop := ∃ x y z : Int, t = [x, y, z] ∧ 0 ≤ x ∧ x < 10 ∧ 0 ≤ y ∧ y < 10 ∧ 0 ≤ z ∧ z < 10
abbrev tv (t : List Int) : Value := .agg (ints t).toArray
theorem tv_inj {t u : List Int} (h : tv t = tv u) : t = u := by
  have h1 : (ints t).toArray = (ints u).toArray := by injection h
  have h2 : ints t = ints u := by simpa using congrArg Array.toList h1
  have : ∀ (t u : List Int), ints t = ints u → t = u := by
    intro t
    induction t with
    | nil => intro u hu; cases u with
      | nil => rfl
      | cons y u => simp [ints] at hu
    | cons x t ih => intro u hu; cases u with
      | nil => simp [ints] at hu
      | cons y u =>
        simp only [ints, List.map_cons, List.cons.injEq, Value.int.injEq, true_and] at hu
        rw [hu.1, ih u hu.2]
  exact this t u h2

theorem laidOutT : laidOutB Tryd.prog = true := by kernel_rfl
theorem three_row : (45 : TypeId) < Tryd.prog.types.size := of_decide_eq_true (by kernel_rfl)
theorem three_law : WideMaps.KeyLaw Tryd.prog 45 := deep_law_laid laidOutT (m := 2) (by omega) three_row (by kernel_rfl) (by rw [Tryd.underlying45])
theorem cells_three' : Tryd.prog.cellsOf 45 = 3 := by kernel_rfl
theorem three_key {t : List Int} (h : Sm t) : ∃ l, keyOf Tryd.prog 45 (tv t) = some l := by
  obtain ⟨x, y, z, rfl, hx0, hx1, hy0, hy1, hz0, hz1⟩ := h
  have hw : ∀ n : Int, 0 ≤ n → n < 10 → (Lit.int .i64 n).wf = true := fun n h0 h1 => WalkArith.wf_i64 (by constructor <;> omega)
  have hx := hw x hx0 hx1
  have hy := hw y hy0 hy1
  have hz := hw z hz0 hz1
  have hkt : Tryd.prog.keyType 45 = true := by kernel_rfl
  obtain ⟨d, hd⟩ : ∃ d, Tryd.prog.types.size = d + 1 := ⟨Tryd.prog.types.size - 1, by have h := three_row; have h2 : 0 < Tryd.prog.types.size := Nat.lt_of_le_of_lt (Nat.zero_le _) h; omega⟩
  have hi : ∀ n : Int, (Lit.int .i64 n).wf = true → Tryd.prog.keyLits (d + 1) 3 [.int .i64 n] = some [.int .i64 n] := fun n hn => by
    simp [Program.keyLits, Tryd.underlying3, hn]
  have hk : Tryd.prog.keyLits (d + 1 + 1) 45 [.int .i64 x, .int .i64 y, .int .i64 z] = some [.int .i64 x, .int .i64 y, .int .i64 z] := by
    unfold Program.keyLits
    simp only [Tryd.underlying45]
    rw [if_pos ⟨by rw [cells_three']; rfl, by simp⟩]
    simp [List.mapM_cons, cells_int, hi x hx, hi y hy, hi z hz]
  refine ⟨.string (keyBytes [.int .i64 x, .int .i64 y, .int .i64 z]), ?_⟩
  unfold keyOf
  simp only [Tryd.underlying45]
  have hf : (tv [x, y, z]).formed Tryd.prog 45 = true := by
    simp [Value.formed, Tryd.underlying45, cells_three', ints]
  rw [if_pos (by rw [hkt, hf]; rfl)]
  have e : (tv [x, y, z]).cells.toList = [.int .i64 x, .int .i64 y, .int .i64 z] := by simp [Value.cells, ints]
  rw [e, hd, hk]
  rfl

/-- Block b is a map; the threes that it has are those of K, all of them true. -/
def MapK (w : World) (b : Nat) (K : List (List Int)) : Prop :=
  ∃ es clock, w.heap[b]? = some (.map es clock) ∧ (∀ e ∈ es.toList, e.val = .bool true ∧ ∃ t, Sm t ∧ e.key = tv t) ∧ ∀ t, Sm t → (t ∈ K ↔ ∃ e ∈ es.toList, e.key = tv t)

section
variable {w w' : World} {b D : Nat} {K : List (List Int)}
theorem MapK.lt (h : MapK w b K) : b < w.heap.size := by
  obtain ⟨es, clock, hb, _⟩ := h
  exact (Array.getElem?_eq_some_iff.1 hb).1
theorem MapK.same (h : MapK w b K) (hk : w'.heap[b]? = w.heap[b]?) : MapK w' b K := by
  obtain ⟨es, clock, hb, rest⟩ := h
  exact ⟨es, clock, hk.trans hb, rest⟩
theorem MapK.below (h : MapK w b K) (hb : Below D w w') (hD : b < D) : MapK w' b K := h.same (hb.block b hD)
theorem MapK.grown {row : Option Nat} (h : MapK w b K) (hg : w.grownBy w' row) (hr : some b ≠ row) : MapK w' b K := h.same (hg.block b h.lt hr)
theorem MapK.alloc (h : MapK w b K) (o : Obj) : MapK (w.alloc o) b K := h.same (Below.heap_alloc w o b h.lt)
theorem MapK.made (w : World) : MapK (w.alloc (.map #[] 0)) w.heap.size [] :=
  ⟨#[], 0, heap_alloc_new w _, by simp, by simp⟩
theorem MapK.look (h : MapK w b K) {t : List Int} (ht : Sm t) : (Instr.lookup 42 (.map (some b)) (tv t) false).run Tryd.prog w = .ok (.bool (decide (t ∈ K))) w := by
  obtain ⟨es, clock, hb, hes, hK⟩ := h
  obtain ⟨l, hl⟩ := three_key ht
  have hch := three_law.check w es.isEmpty hl
  have hkeys : ∀ e ∈ es.toList, ∃ l, keyOf Tryd.prog 45 e.key = some l := fun e he => by
    obtain ⟨_, u, hu, e2⟩ := hes e he
    rw [e2]; exact three_key hu
  have hz : (zeroValue 4).run Tryd.prog w = .ok (.bool false) w := by kernel_rfl
  have hu : Tryd.prog.underlying 42 = some (.map 45 4) := Tryd.underlying42
  rcases three_law.find w hl es.toList hkeys with ⟨hf, hno⟩ | ⟨j, e, hf, he, hkey⟩
  · have hn : ¬ t ∈ K := fun hin => by
      obtain ⟨e, he, e2⟩ := (hK t ht).1 hin
      exact hno e he e2
    have hd : decide (t ∈ K) = false := by simpa using hn
    rw [hd]
    simp [Instr.lookup, run_underlying hu, MapKept.run_getObj_map hb, hch, hf, hz, Result.andThen]
  · have hmem : e ∈ es.toList := List.mem_of_getElem? he
    have hy : t ∈ K := (hK t ht).2 ⟨e, hmem, hkey⟩
    have hd : decide (t ∈ K) = true := by simpa using hy
    have hv := (hes e hmem).1
    rw [hd]
    simp [Instr.lookup, run_underlying hu, MapKept.run_getObj_map hb, hch, hf, hv, Result.andThen]
theorem MapK.store (h : MapK w b K) {t : List Int} (ht : Sm t) (hn : t ∉ K) : ∃ w', (Instr.mapUpdate 42 (.map (some b)) (tv t) (.bool true)).run Tryd.prog w = .ok () w' ∧ MapK w' b (t :: K) ∧ w.grownBy w' (some b) ∧ w'.heap.size = w.heap.size := by
  obtain ⟨es, clock, hb, hes, hK⟩ := h
  obtain ⟨l, hl⟩ := three_key ht
  have hch := three_law.check w false hl
  have hkeys : ∀ e ∈ es.toList, ∃ l, keyOf Tryd.prog 45 e.key = some l := fun e he => by
    obtain ⟨_, u, hu, e2⟩ := hes e he
    rw [e2]; exact three_key hu
  have hu : Tryd.prog.underlying 42 = some (.map 45 4) := Tryd.underlying42
  rcases three_law.find w hl es.toList hkeys with ⟨hf, hno⟩ | ⟨j, e, hf, he, hkey⟩
  · refine ⟨ChangeMaps.setBlock w b (.map (es.push { key := tv t, val := .bool true, born := clock }) (clock + 1)), ?_, ⟨_, _, ChangeMaps.heap_setBlock_same hb _, fun e he => ?_, fun u hu' => ?_⟩, ⟨rfl, rfl, rfl, by simp [ChangeMaps.setBlock], fun i _ hi => ChangeMaps.heap_setBlock_other hb _ (fun e => hi (by rw [e]))⟩, by simp [ChangeMaps.setBlock]⟩
    · simp [Instr.mapUpdate, run_underlying hu, MapKept.run_getObj_map hb, hch, hf, MapKept.run_setObj_map _ hb, Result.andThen, ChangeMaps.setBlock]
    · simp only [Array.toList_push, List.mem_append, List.mem_singleton] at he
      rcases he with he | rfl
      · exact hes e he
      · exact ⟨rfl, t, ht, rfl⟩
    · simp only [List.mem_cons, Array.toList_push, List.mem_append, List.not_mem_nil, or_false]
      constructor
      · rintro (rfl | hin)
        · exact ⟨_, .inr rfl, rfl⟩
        · obtain ⟨e, he, e2⟩ := (hK u hu').1 hin
          exact ⟨e, .inl he, e2⟩
      · rintro ⟨e, he | rfl, e2⟩
        · exact .inr ((hK u hu').2 ⟨e, he, e2⟩)
        · exact .inl (tv_inj e2).symm
  · exact absurd ((hK t ht).2 ⟨e, List.mem_of_getElem? he, hkey⟩) hn
end

/-- A look-up and a store at the operation. -/
theorem look_op {ops : Array Oper} {rest : List Oper} {o : Oper} {a : Act} {w : World} {Q : Exit → Act → World → Prop} (hgd : o.guard = none) (m x : Operand) (ho : o.op = .lookup 42 m x false)
    (b : Nat) (K : List (List Int)) (t : List Int) (ht : Sm t) (hm : a.eval m = .map (some b)) (hx : a.eval x = tv t) (h : Hid (MapK w b K))
    (next : wpList Tryd.prog ops Q rest (a.put o.dst (.bool (decide (t ∈ K)))) w) : wpList Tryd.prog ops Q (o :: rest) a w :=
  wpList_plain hgd fun _ hK => by
    unfold Oper.wp
    simp only [execOp, ho, hm, hx, Sem.run_bind, h.out.look ht, Result.andThen_ok, Sem.run_pure]
    exact hK _ _ next
theorem store_op {ops : Array Oper} {rest : List Oper} {o : Oper} {a : Act} {w : World} {Q : Exit → Act → World → Prop} (hgd : o.guard = none) (m x v : Operand) (ho : o.op = .mapUpdate 42 m x v)
    (b : Nat) (K : List (List Int)) (t : List Int) (ht : Sm t) (hn : t ∉ K) (hm : a.eval m = .map (some b)) (hx : a.eval x = tv t) (hv : a.eval v = .bool true) (h : Hid (MapK w b K))
    (next : ∀ w', Hid (MapK w' b (t :: K)) → w.grownBy w' (some b) → w'.heap.size = w.heap.size → wpList Tryd.prog ops Q rest (a.put o.dst undef) w') : wpList Tryd.prog ops Q (o :: rest) a w :=
  wpList_plain hgd fun _ hK => by
    obtain ⟨w', hrun, h1, h2, h3⟩ := h.out.store ht hn
    unfold Oper.wp
    simp only [execOp, ho, hm, hx, hv, Sem.run_bind, hrun, Result.andThen_ok, Sem.run_pure]
    exact hK _ _ (next w' h1 h2 h3)
end Go.Proofs.YthefnanhikjddaaDoor

namespace Go.Proofs.YthefnanhikjddaaDoor
open Go.ChangeShapes Go.WideShapes Go.ChangeAt Go.RowKit

theorem RowN.live {w : World} {B m : Nat} {t : TypeId} {v : Value} {M : List (List Int)} (h : RowN w B t m v M) (hne : v ≠ .slice none 0 0) : ∃ g c, v = .slice (some ⟨g, 0, none⟩) M.length c := by
  rcases h.2.2 with ⟨e, _⟩ | ⟨g, cap, cur, e, _⟩
  · exact absurd e hne
  · exact ⟨g, cap, e⟩
theorem joinX1 (K : List (List Int)) (a b c x : Int) (r1 r2 : Bool) (h1 : r1 = decide (x ≠ b ∧ [a, c, x] ∈ K)) (h2 : r2 = decide (x ≠ c ∧ [a, x, b] ∈ K)) :
    joinX K a b c x = (if r1 = true then [[a, b, x]] else []) ++ (if r2 = true then [[a, x, c]] else []) := by
  subst h1; subst h2; simp [joinX]

set_option maxRecDepth 10000 in
set_option maxHeartbeats 4000000 in
theorem joined_any (n mb : Nat) (K : List (List Int)) (a b c : Int) (w : World) (hn : n ≤ 7) (hm : MapK w mb K) (ha0 : 0 ≤ a) (ha : a < 10) (hb0 : 0 ≤ b) (hb : b < 10) (hc0 : 0 ≤ c) (hc : c < 10) :
    Calls Tryd.prog 78 #[.map (some mb), .int .i64 (n : Int), .agg (ints [a, b, c]).toArray] w fun e w' => ∃ g d, e = .returned (.slice (some ⟨g, 0, none⟩) (joinTo K a b c n).length d) ∧ RowN w' w.heap.size 45 3 (.slice (some ⟨g, 0, none⟩) (joinTo K a b c n).length d) (joinTo K a b c n) ∧ Below w.heap.size w w' := by
  obtain ⟨i0, hi, hz0, hz1, hz2⟩ := info_parts three_info
  obtain ⟨W1, hW1⟩ : ∃ W, W = w.alloc (.cells (ints [a, b, c]).toArray 45) := ⟨_, rfl⟩
  obtain ⟨W0, hW0⟩ : ∃ W, W = W1.alloc (.cells #[] 45) := ⟨_, rfl⟩
  have s1 : W1.heap.size = w.heap.size + 1 := by rw [hW1]; simp
  have ht0 : Hid (Tri W0 w.heap.size [a, b, c]) := by rw [hW0, hW1]; exact Lib.hid ((Blk.new w [a, b, c]).alloc _)
  have hm0 : Hid (MapK W0 mb K) := by rw [hW0, hW1]; exact Lib.hid ((hm.alloc _).alloc _)
  have hr0 : Hid (RowN W0 (w.heap.size + 1) 45 3 (.slice (some ⟨w.heap.size + 1, 0, none⟩) 0 0) (joinTo K a b c 0)) := by rw [hW0, ← s1]; exact Lib.hid (RowN.empty W1 (by omega))
  have hb0' : Below w.heap.size w W0 := by rw [hW0, hW1]; exact ((Below.refl _ _).alloc (Nat.le_refl _) _).alloc (by simp) _
  have hmb := hm.lt
  simp only [ints, List.map_cons, List.map_nil] at hW1
  change Calls Tryd.prog 78 #[.map (some mb), .int .i64 (n : Int), .agg #[.int .i64 a, .int .i64 b, .int .i64 c]] w _
  clear hm
  go_enter Tryd.func78, Tryd.ntmps78
  go_wp2
  rw [← hW1, ← hW0]
  clear hW0 hW1 s1
  generalize hB : w.heap.size = B at *
  have HB := Lib.hid hB
  clear hB
  go_loopw [7, 11] (fun v i wr => ∃ k : Nat, k ≤ n ∧ i = .int .i64 k ∧ Hid (RowN wr (B + 1) 45 3 v (joinTo K a b c k)) ∧ Hid (v ≠ .slice none 0 0) ∧ Hid (Tri wr B [a, b, c]) ∧ Hid (MapK wr mb K) ∧ Below B w wr) (fun _ i _ => n - (intOf i).toNat)
  case atStart => exact ⟨0, Nat.zero_le _, rfl, hr0, Lib.hid (by simp), ht0, hm0, hb0'⟩
  case round =>
    obtain ⟨k, hk, rfl, hrd, hne, htr, hmk, hbl⟩ := hrel
    clear hr0 ht0 hm0 hb0'
    have HBL := Lib.hid hbl
    have hBw : B ≤ wr.heap.size := by rw [← HB.out]; exact hbl.size
    clear hbl
    by_cases hlt : k < n
    · have hlen := joinTo_len K a b c k
      obtain ⟨r1, hr1⟩ : ∃ r : Bool, r = decide ((k : Int) ≠ b ∧ [a, c, (k : Int)] ∈ K) := ⟨_, rfl⟩
      obtain ⟨r2, hr2⟩ : ∃ r : Bool, r = decide ((k : Int) ≠ c ∧ [a, (k : Int), b] ∈ K) := ⟨_, rfl⟩
      have HJX := Lib.hid (joinX1 K a b c (k : Int) r1 r2 hr1 hr2)
      have HJ := Lib.hid (joinTo_succ K a b c k)
      have HL1 := Lib.hid (fun W (h : MapK W mb K) => h.look (t := [a, c, (k : Int)]) ⟨a, c, k, rfl, ha0, ha, hc0, hc, by omega, by omega⟩)
      have HL2 := Lib.hid (fun W (h : MapK W mb K) => h.look (t := [a, (k : Int), b]) ⟨a, k, b, rfl, ha0, ha, by omega, by omega, hb0, hb⟩)
      have HR1 := Lib.hid hr1
      have HR2 := Lib.hid hr2
      clear hr1 hr2
      obtain ⟨M, hM⟩ : ∃ M, M = joinTo K a b c k := ⟨_, rfl⟩
      rw [← hM] at hrd HJ hlen
      clear hM
      have c0 : wr.cell? ⟨B, 0, none⟩ = some (.int .i64 a) := htr.out.cell (i := 0) (by simp)
      have c1 : wr.cell? ⟨B, 1, none⟩ = some (.int .i64 b) := htr.out.cell (i := 1) (by simp)
      have c2 : wr.cell? ⟨B, 2, none⟩ = some (.int .i64 c) := htr.out.cell (i := 2) (by simp)
      by_cases hxb : (k : Int) = b
      · have hbb : ((k : Int) != b) = false := by simp; omega
        have HNO1 : Hid (¬ ((k : Int) ≠ b ∧ [a, c, (k : Int)] ∈ K)) := fun h => h.1 hxb
        clear hxb
        by_cases hxc : (k : Int) = c
        · have hbc : ((k : Int) != c) = false := by simp; omega
          have HC2 : Hid (r2 = false) := by rw [Hid, HR2.out]; simp [hxc]
          clear hxc
          have HST : Hid (M = joinTo K a b c (k + 1)) := by rw [Hid, HJ.out, HJX.out, show r1 = false from by rw [HR1.out]; simpa using HNO1.out, HC2.out]; simp
          have HRR := hrd
          rw [HST.out] at HRR
          go_wp2
          go_roundw
          case rel => exact ⟨k + 1, by omega, by go_num, HRR, hne, htr, hmk, HBL.out⟩
          case measure => simp [intOf]; omega
        · have hbc : ((k : Int) != c) = true := by simp; omega
          have hl2 := HL2.out wr hmk.out
          have HC2 : Hid (r2 = decide ([a, (k : Int), b] ∈ K)) := by rw [Hid, HR2.out]; simp [hxc]
          rw [← HC2.out] at hl2
          simp only [tv, ints, List.map_cons, List.map_nil] at hl2
          clear hxc
          cases hq2 : r2 with
          | false =>
            rw [hq2] at hl2
            have HC3 := Lib.hid hq2
            clear hq2 HC2
            have HST : Hid (M = joinTo K a b c (k + 1)) := by rw [Hid, HJ.out, HJX.out, show r1 = false from by rw [HR1.out]; simpa using HNO1.out, HC3.out]; simp
            have HRR := hrd
            rw [HST.out] at HRR
            go_wp2
            go_roundw
            case rel => exact ⟨k + 1, by omega, by go_num, HRR, hne, htr, hmk, HBL.out⟩
            case measure => simp [intOf]; omega
          | true =>
            rw [hq2] at hl2
            have HC3 := Lib.hid hq2
            clear hq2 HC2
            go_wp2_with (at_builtin; refine wpList_append_own _ rfl _ _ 38 rfl (B + 1) 45 i0 (.agg #[.int .i64 0, .int .i64 0, .int .i64 0]) 3 24 Tryd.underlying38 hi hz0 hz1 hz2 rfl (by decide) _ _ _ rfl (hrd.out.2.alloc _) ⟨wr.heap.size, 0, none⟩ 1 1 (ints [a, (k : Int), c]) rfl rfl (World.news_of_block (heap_alloc_new wr _)) (ints_oneCell _) (by unfold maxLen; omega) (by omega) (by simp; omega) ?_)
            intro v7 w7 hown7 hgr7 hnil7
            have HR7 := Lib.hid (hrd.out.snoc (l := [a, (k : Int), c]) rfl hown7)
            have HNE7 : Hid (v7 ≠ .slice none 0 0) := Lib.hid hnil7
            have HT7 := Lib.hid ((htr.out.alloc (.cells (ints [a, (k : Int), c]).toArray 45)).grown hgr7 (by intro e; have := (hrd.out.lt _ e.symm).1; omega))
            have HM7 := Lib.hid ((hmk.out.alloc (.cells (ints [a, (k : Int), c]).toArray 45)).grown hgr7 (by intro e; have := (hrd.out.lt _ e.symm).1; omega))
            have HB7 := Lib.hid ((HBL.out.alloc hBw _).grown hgr7 (by simp; omega) (fun i hi => by have := (hrd.out.lt i hi).1; omega))
            clear hown7 hgr7 hnil7
            have HST : Hid ((M ++ [[a, (k : Int), c]]) = joinTo K a b c (k + 1)) := by rw [Hid, HJ.out, HJX.out, show r1 = false from by rw [HR1.out]; simpa using HNO1.out, HC3.out]; simp
            have HRR := HR7
            rw [HST.out] at HRR
            go_wp2
            go_roundw
            case rel => exact ⟨k + 1, by omega, by go_num, HRR, HNE7, HT7, HM7, HB7.out⟩
            case measure => simp [intOf]; omega
      · have hbb : ((k : Int) != b) = true := by simp; omega
        have hl1 := HL1.out wr hmk.out
        have HC1 : Hid (r1 = decide ([a, c, (k : Int)] ∈ K)) := by rw [Hid, HR1.out]; simp [hxb]
        rw [← HC1.out] at hl1
        simp only [tv, ints, List.map_cons, List.map_nil] at hl1
        clear hxb
        cases hq1 : r1 with
        | false =>
          rw [hq1] at hl1
          have HNO1 : Hid (¬ ((k : Int) ≠ b ∧ [a, c, (k : Int)] ∈ K)) := by have := HR1.out; rw [hq1] at this; simpa [Hid] using this.symm
          clear hq1 HC1
          by_cases hxc : (k : Int) = c
          · have hbc : ((k : Int) != c) = false := by simp; omega
            have HC2 : Hid (r2 = false) := by rw [Hid, HR2.out]; simp [hxc]
            clear hxc
            have HST : Hid (M = joinTo K a b c (k + 1)) := by rw [Hid, HJ.out, HJX.out, show r1 = false from by rw [HR1.out]; simpa using HNO1.out, HC2.out]; simp
            have HRR := hrd
            rw [HST.out] at HRR
            go_wp2
            go_roundw
            case rel => exact ⟨k + 1, by omega, by go_num, HRR, hne, htr, hmk, HBL.out⟩
            case measure => simp [intOf]; omega
          · have hbc : ((k : Int) != c) = true := by simp; omega
            have hl2 := HL2.out wr hmk.out
            have HC2 : Hid (r2 = decide ([a, (k : Int), b] ∈ K)) := by rw [Hid, HR2.out]; simp [hxc]
            rw [← HC2.out] at hl2
            simp only [tv, ints, List.map_cons, List.map_nil] at hl2
            clear hxc
            cases hq2 : r2 with
            | false =>
              rw [hq2] at hl2
              have HC3 := Lib.hid hq2
              clear hq2 HC2
              have HST : Hid (M = joinTo K a b c (k + 1)) := by rw [Hid, HJ.out, HJX.out, show r1 = false from by rw [HR1.out]; simpa using HNO1.out, HC3.out]; simp
              have HRR := hrd
              rw [HST.out] at HRR
              go_wp2
              go_roundw
              case rel => exact ⟨k + 1, by omega, by go_num, HRR, hne, htr, hmk, HBL.out⟩
              case measure => simp [intOf]; omega
            | true =>
              rw [hq2] at hl2
              have HC3 := Lib.hid hq2
              clear hq2 HC2
              go_wp2_with (at_builtin; refine wpList_append_own _ rfl _ _ 38 rfl (B + 1) 45 i0 (.agg #[.int .i64 0, .int .i64 0, .int .i64 0]) 3 24 Tryd.underlying38 hi hz0 hz1 hz2 rfl (by decide) _ _ _ rfl (hrd.out.2.alloc _) ⟨wr.heap.size, 0, none⟩ 1 1 (ints [a, (k : Int), c]) rfl rfl (World.news_of_block (heap_alloc_new wr _)) (ints_oneCell _) (by unfold maxLen; omega) (by omega) (by simp; omega) ?_)
              intro v7 w7 hown7 hgr7 hnil7
              have HR7 := Lib.hid (hrd.out.snoc (l := [a, (k : Int), c]) rfl hown7)
              have HNE7 : Hid (v7 ≠ .slice none 0 0) := Lib.hid hnil7
              have HT7 := Lib.hid ((htr.out.alloc (.cells (ints [a, (k : Int), c]).toArray 45)).grown hgr7 (by intro e; have := (hrd.out.lt _ e.symm).1; omega))
              have HM7 := Lib.hid ((hmk.out.alloc (.cells (ints [a, (k : Int), c]).toArray 45)).grown hgr7 (by intro e; have := (hrd.out.lt _ e.symm).1; omega))
              have HB7 := Lib.hid ((HBL.out.alloc hBw _).grown hgr7 (by simp; omega) (fun i hi => by have := (hrd.out.lt i hi).1; omega))
              clear hown7 hgr7 hnil7
              have HST : Hid ((M ++ [[a, (k : Int), c]]) = joinTo K a b c (k + 1)) := by rw [Hid, HJ.out, HJX.out, show r1 = false from by rw [HR1.out]; simpa using HNO1.out, HC3.out]; simp
              have HRR := HR7
              rw [HST.out] at HRR
              go_wp2
              go_roundw
              case rel => exact ⟨k + 1, by omega, by go_num, HRR, HNE7, HT7, HM7, HB7.out⟩
              case measure => simp [intOf]; omega
        | true =>
          rw [hq1] at hl1
          have HIN1 : Hid ((k : Int) ≠ b ∧ [a, c, (k : Int)] ∈ K) := by have := HR1.out; rw [hq1] at this; simpa [Hid] using this.symm
          clear hq1 HC1
          go_wp2_with (at_builtin; refine wpList_append_own _ rfl _ _ 38 rfl (B + 1) 45 i0 (.agg #[.int .i64 0, .int .i64 0, .int .i64 0]) 3 24 Tryd.underlying38 hi hz0 hz1 hz2 rfl (by decide) _ _ _ rfl (hrd.out.2.alloc _) ⟨wr.heap.size, 0, none⟩ 1 1 (ints [a, b, (k : Int)]) rfl rfl (World.news_of_block (heap_alloc_new wr _)) (ints_oneCell _) (by unfold maxLen; omega) (by omega) (by simp; omega) ?_)
          intro v5 w5 hown5 hgr5 hnil5
          have HR5 := Lib.hid (hrd.out.snoc (l := [a, b, (k : Int)]) rfl hown5)
          have HNE5 : Hid (v5 ≠ .slice none 0 0) := Lib.hid hnil5
          have HT5 := Lib.hid ((htr.out.alloc (.cells (ints [a, b, (k : Int)]).toArray 45)).grown hgr5 (by intro e; have := (hrd.out.lt _ e.symm).1; omega))
          have HM5 := Lib.hid ((hmk.out.alloc (.cells (ints [a, b, (k : Int)]).toArray 45)).grown hgr5 (by intro e; have := (hrd.out.lt _ e.symm).1; omega))
          have HB5 := Lib.hid ((HBL.out.alloc hBw _).grown hgr5 (by simp; omega) (fun i hi => by have := (hrd.out.lt i hi).1; omega))
          have hBw5 : B ≤ w5.heap.size := by rw [← HB.out]; exact HB5.out.size
          obtain ⟨M5, hM5⟩ : ∃ M5, M5 = M ++ [[a, b, (k : Int)]] := ⟨_, rfl⟩
          have HME := Lib.hid hM5
          have hlen5 : M5.length ≤ 2 * k + 1 := by rw [hM5]; simp; omega
          rw [← hM5] at HR5
          clear hown5 hgr5 hnil5 c0 c1 c2 hM5
          have c0 : w5.cell? ⟨B, 0, none⟩ = some (.int .i64 a) := HT5.out.cell (i := 0) (by simp)
          have c1 : w5.cell? ⟨B, 1, none⟩ = some (.int .i64 b) := HT5.out.cell (i := 1) (by simp)
          have c2 : w5.cell? ⟨B, 2, none⟩ = some (.int .i64 c) := HT5.out.cell (i := 2) (by simp)
          by_cases hxc : (k : Int) = c
          · have hbc : ((k : Int) != c) = false := by simp; omega
            have HC2 : Hid (r2 = false) := by rw [Hid, HR2.out]; simp [hxc]
            clear hxc
            have HST : Hid (M5 = joinTo K a b c (k + 1)) := by rw [Hid, HJ.out, HJX.out, HME.out, show r1 = true from by rw [HR1.out]; simpa using HIN1.out, HC2.out]; simp
            have HRR := HR5
            rw [HST.out] at HRR
            go_wp2
            go_roundw
            case rel => exact ⟨k + 1, by omega, by go_num, HRR, HNE5, HT5, HM5, HB5.out⟩
            case measure => simp [intOf]; omega
          · have hbc : ((k : Int) != c) = true := by simp; omega
            have hl2 := HL2.out w5 HM5.out
            have HC2 : Hid (r2 = decide ([a, (k : Int), b] ∈ K)) := by rw [Hid, HR2.out]; simp [hxc]
            rw [← HC2.out] at hl2
            simp only [tv, ints, List.map_cons, List.map_nil] at hl2
            clear hxc
            cases hq2 : r2 with
            | false =>
              rw [hq2] at hl2
              have HC3 := Lib.hid hq2
              clear hq2 HC2
              have HST : Hid (M5 = joinTo K a b c (k + 1)) := by rw [Hid, HJ.out, HJX.out, HME.out, show r1 = true from by rw [HR1.out]; simpa using HIN1.out, HC3.out]; simp
              have HRR := HR5
              rw [HST.out] at HRR
              go_wp2
              go_roundw
              case rel => exact ⟨k + 1, by omega, by go_num, HRR, HNE5, HT5, HM5, HB5.out⟩
              case measure => simp [intOf]; omega
            | true =>
              rw [hq2] at hl2
              have HC3 := Lib.hid hq2
              clear hq2 HC2
              go_wp2_with (at_builtin; refine wpList_append_own _ rfl _ _ 38 rfl (B + 1) 45 i0 (.agg #[.int .i64 0, .int .i64 0, .int .i64 0]) 3 24 Tryd.underlying38 hi hz0 hz1 hz2 rfl (by decide) _ _ _ rfl (HR5.out.2.alloc _) ⟨w5.heap.size, 0, none⟩ 1 1 (ints [a, (k : Int), c]) rfl rfl (World.news_of_block (heap_alloc_new w5 _)) (ints_oneCell _) (by unfold maxLen; omega) (by omega) (by simp; omega) ?_)
              intro v7 w7 hown7 hgr7 hnil7
              have HR7 := Lib.hid (HR5.out.snoc (l := [a, (k : Int), c]) rfl hown7)
              have HNE7 : Hid (v7 ≠ .slice none 0 0) := Lib.hid hnil7
              have HT7 := Lib.hid ((HT5.out.alloc (.cells (ints [a, (k : Int), c]).toArray 45)).grown hgr7 (by intro e; have := (HR5.out.lt _ e.symm).1; omega))
              have HM7 := Lib.hid ((HM5.out.alloc (.cells (ints [a, (k : Int), c]).toArray 45)).grown hgr7 (by intro e; have := (HR5.out.lt _ e.symm).1; omega))
              have HB7 := Lib.hid ((HB5.out.alloc hBw5 _).grown hgr7 (by simp; omega) (fun i hi => by have := (HR5.out.lt i hi).1; omega))
              clear hown7 hgr7 hnil7
              have HST : Hid ((M5 ++ [[a, (k : Int), c]]) = joinTo K a b c (k + 1)) := by rw [Hid, HJ.out, HJX.out, HME.out, show r1 = true from by rw [HR1.out]; simpa using HIN1.out, HC3.out]; simp
              have HRR := HR7
              rw [HST.out] at HRR
              go_wp2
              go_roundw
              case rel => exact ⟨k + 1, by omega, by go_num, HRR, HNE7, HT7, HM7, HB7.out⟩
              case measure => simp [intOf]; omega
    · obtain rfl : k = n := by omega
      obtain ⟨g, d, e⟩ := hrd.out.live hne.out
      subst e
      go_wp2
      go_ret
      exact ⟨g, d, rfl, by rw [HB.out]; exact hrd.out.less (by omega), by rw [HB.out]; exact HBL.out⟩
end Go.Proofs.YthefnanhikjddaaDoor

namespace Go.Proofs.YthefnanhikjddaaDoor
open Go.ChangeShapes Go.WideShapes Go.ChangeAt Go.RowKit

open Classical in
noncomputable def cloL (n : Nat) (L : List (List Int)) : List (List Int) := (everyL n).filter fun t => decide (Cl L t)

theorem thr_sm {n : Nat} {t : List Int} (h : Thr (n : Int) t) (hn : n ≤ 7) : Sm t := by
  obtain ⟨x, y, z, rfl⟩ := of_three h.1
  rw [thr3] at h
  exact ⟨x, y, z, rfl, by omega, by omega, by omega, by omega, by omega, by omega⟩

section
variable {w w' : World} {D m : Nat} {t : TypeId}
theorem RowN.take {g n c : Nat} {X : List (List Int)} (h : RowN w D t m (.slice (some ⟨g, 0, none⟩) n c) X) {i : Nat} (hi : i ≤ X.length) : RowN w D t m (.slice (some ⟨g, 0, none⟩) i c) (X.take i) := by
  rcases h.2.2 with ⟨e, _⟩ | ⟨g', c', cur, e, hB, hg, hc, hcm, hs, ht⟩
  · cases e
  · injection e with e1 e2 e3
    injection e1 with e1
    injection e1 with e1
    subst e1; subst e3; subst e2
    have hrows : ∀ l ∈ X.take i, l.length = m := fun l hl => h.1 l (List.mem_of_mem_take hl)
    have hxl : (X.take i).length = i := by simp; omega
    have him : i * m ≤ X.length * m := Nat.mul_le_mul_right _ hi
    have hfl : (X.take i).flatten.length = i * m := by rw [flat_length m _ hrows, hxl]
    have hfx : X.flatten.take (i * m) = (X.take i).flatten := by
      conv => lhs; rw [← List.take_append_drop i X, List.flatten_append]
      exact List.take_left' hfl
    refine ⟨hrows, by rw [hxl, ints_length, hfl], .inr ⟨g, c, cur, by rw [hxl], hB, hg, by rw [hxl]; omega, hcm, hs, ?_⟩⟩
    rw [hxl]
    have : cur.toList.take (i * m) = (cur.toList.take (X.length * m)).take (i * m) := by rw [List.take_take, Nat.min_eq_left him]
    rw [this, ht, ← hfx]
    simp [ints]
theorem RowN.cells {g n c : Nat} {M : List (List Int)} (h : RowN w D t m (.slice (some ⟨g, 0, none⟩) n c) M) : ∀ j u, (ints M.flatten)[j]? = some u → w.cell? ((⟨g, 0, none⟩ : Addr).add j) = some u := by
  intro j u hu
  rcases h.2.2 with ⟨e, _⟩ | ⟨g', c', cur, e, hB, hg, hc, hcm, hs, ht⟩
  · cases e
  · injection e with e1 e2 e3
    injection e1 with e1
    injection e1 with e1
    subst e1
    rw [Addr.add_lit, Nat.zero_add, cell_of_row w g j _ _ (0, 0) hg]
    rw [← ht, List.getElem?_take] at hu
    split at hu
    · rw [← Array.getElem?_toList]; exact hu
    · cases hu
theorem RowN.cat {B : Nat} {v v' : Value} {M N : List (List Int)} (h : RowN w B t m v M) (hN : ∀ l ∈ N, l.length = m) (ho : w'.ownsRow B t m v' (M.length + N.length) (ints M.flatten ++ ints N.flatten)) : RowN w' B t m v' (M ++ N) := by
  refine ⟨fun r hr => ?_, ?_⟩
  · rcases List.mem_append.1 hr with h1 | h1
    · exact h.1 r h1
    · exact hN r h1
  · rw [List.length_append, List.flatten_append]
    have e : ints (M.flatten ++ N.flatten) = ints M.flatten ++ ints N.flatten := by simp [ints]
    rw [e]; exact ho
end

set_option maxRecDepth 10000 in
theorem turned_any (x y z : Int) (w : World) :
    Calls Tryd.prog 77 #[.agg (ints [x, y, z]).toArray] w fun e w' => e = .returned (.agg (ints [y, z, x]).toArray) ∧ Below w.heap.size w w' := by
  change Calls Tryd.prog 77 #[.agg #[.int .i64 x, .int .i64 y, .int .i64 z]] w _
  have hn := Blk.new (t := 45) (w.alloc (.cells (ints [x, y, z]).toArray 45)) [y, z, x]
  rw [show (w.alloc (.cells (ints [x, y, z]).toArray 45)).heap.size = w.heap.size + 1 by simp] at hn
  have HN := Lib.hid hn
  clear hn
  go_enter Tryd.func77, Tryd.ntmps77
  go_wp2
  exact ret_tri rfl (w.heap.size + 1) [y, z, x] rfl rfl HN rfl ⟨rfl, ((Below.refl _ _).alloc (Nat.le_refl _) _).alloc (by simp) _⟩

set_option maxRecDepth 10000 in
theorem sorted1_any (bx mb : Nat) (K : List (List Int)) (t : List Int) (w : World) (hbx : w.cell? ⟨bx, 0, none⟩ = some (.map (some mb))) (hm : MapK w mb K) (ht : Sm t) :
    Calls Tryd.prog 81 #[.agg (ints t).toArray, .pointer (some ⟨bx, 0, none⟩)] w fun e w' => e = .returned (.bool (!decide (t ∈ K))) ∧ Below w.heap.size w w' := by
  have ht' := ht
  obtain ⟨x, y, z, rfl, _⟩ := ht'
  have hbw : bx < w.heap.size := World.block_lt_of_cell? w _ hbx
  have kb : Below w.heap.size w (w.alloc (.cells (ints [x, y, z]).toArray 45)) := (Below.refl _ _).alloc (Nat.le_refl _) _
  have hl := (hm.alloc (.cells (ints [x, y, z]).toArray 45)).look ht
  have k3 := (kb.cell (p := ⟨bx, 0, none⟩) hbw).trans hbx
  have HT : Hid (Tri (w.alloc (.cells (ints [x, y, z]).toArray 45)) w.heap.size [x, y, z]) := Blk.new w _
  obtain ⟨r, hr⟩ : ∃ r, r = decide ([x, y, z] ∈ K) := ⟨_, rfl⟩
  rw [← hr] at hl ⊢
  clear hr hm ht
  have KB := Lib.hid kb
  clear kb
  simp only [tv, ints, List.map_cons, List.map_nil] at hl k3 HT KB
  have hl2 : (Instr.lookup 42 (.map (some mb)) (.agg (ints [x, y, z]).toArray) false).run Tryd.prog (w.alloc (.cells #[.int .i64 x, .int .i64 y, .int .i64 z] 45)) = .ok (.bool r) (w.alloc (.cells #[.int .i64 x, .int .i64 y, .int .i64 z] 45)) := hl
  clear hl
  change Calls Tryd.prog 81 #[.agg #[.int .i64 x, .int .i64 y, .int .i64 z], .pointer (some ⟨bx, 0, none⟩)] w _
  go_enter Tryd.func81, Tryd.ntmps81
  go_wp2_with (refine load_tri rfl _ rfl w.heap.size [x, y, z] rfl rfl HT ?_)
  go_ret
  exact ⟨rfl, KB.out⟩

set_option maxRecDepth 10000 in
set_option maxHeartbeats 1000000 in
theorem sorted_any (n mb : Nat) (K : List (List Int)) (w : World) (h7 : n ≤ 7) (hm : MapK w mb K) :
    Calls Tryd.prog 46 #[.map (some mb), .int .i64 (n : Int)] w fun e w' => ∃ v', e = .returned v' ∧ RowN w' w.heap.size 45 3 v' ((everyL n).filter fun t => decide (t ∈ K)) ∧ Below w.heap.size w w' := by
  obtain ⟨W, hW⟩ : ∃ W, W = w.alloc (.cells #[.map (some mb)] 42) := ⟨_, rfl⟩
  have kb : Below w.heap.size w W := by rw [hW]; exact (Below.refl _ _).alloc (Nat.le_refl _) _
  have k2 : W.heap.size = w.heap.size + 1 := by rw [hW]; simp
  have k3 : W.cell? ⟨w.heap.size, 0, none⟩ = some (.map (some mb)) := by rw [hW]; simp
  have k4 := hm.below kb hm.lt
  have HF : Hid (∀ V, Below W.heap.size W V → ∀ t ∈ everyL n, Calls Tryd.prog 81 #[.agg (ints t).toArray, .pointer (some ⟨w.heap.size, 0, none⟩)] V fun e w' => e = .returned (.bool (!decide (t ∈ K))) ∧ Below V.heap.size V w') := fun V hV t ht =>
    sorted1_any w.heap.size mb K t V ((hV.cell (p := ⟨w.heap.size, 0, none⟩) (by simp; omega)).trans k3) (k4.below hV k4.lt) (thr_sm ((every_thr n t).1 ht) h7)
  have HEL := Lib.hid (everyL_len n h7)
  have HR : Hid ((everyL n).filter (fun t => !(!decide (t ∈ K))) = (everyL n).filter fun t => decide (t ∈ K)) := by simp [Hid]
  have hE := Lib.hid (enters_fn Tryd.func81 (by decide) rfl)
  clear hm k3 k4
  have HB := Lib.hid kb
  have hBW : w.heap.size ≤ W.heap.size := by omega
  clear kb k2
  go_enter Tryd.func46, Tryd.ntmps46
  go_wp2_with fail
  rw [← hW]
  clear hW
  generalize hBB : w.heap.size = B at *
  have HBB := Lib.hid hBB
  clear hBB
  refine (allThrees_any n W h7).mono ?_
  rintro e w1 ⟨v1, rfl, hr1, hb1⟩
  have HR1 := Lib.hid hr1
  have HB1 := Lib.hid hb1
  have hs1 := hb1.size
  clear hr1 hb1
  go_wp2_with fail
  refine (deleteF_three 81 hE.out (.pointer (some ⟨B, 0, none⟩)) (fun t => !decide (t ∈ K)) W.heap.size v1 _ w1 HR1.out hs1 (by have := HEL.out; omega) (fun V hV => HF.out V (HB1.out.trans hV))).mono ?_
  rintro e w2 ⟨v2, rfl, hr2, hb2⟩
  rw [HR.out] at hr2
  go_wp2
  go_ret
  exact ⟨_, rfl, by rw [HBB.out]; exact hr2.less hBW, by rw [HBB.out]; exact (HB.out.trans (HB1.out.mono hBW)).trans (hb2.mono hBW)⟩

set_option maxRecDepth 10000 in
set_option maxHeartbeats 1000000 in
theorem cloneT_any (v : Value) (C : Nat) (L : List (List Int)) (w : World) (h : RowN w C 45 3 v L) (hn : L.length ≤ 1000) :
    Calls Tryd.prog 76 #[v] w fun e w' => ∃ v', e = .returned v' ∧ RowN w' w.heap.size 45 3 v' L ∧ Below w.heap.size w w' := by
  obtain ⟨i0, hi, hz0, hz1, hz2⟩ := info_parts three_info
  by_cases hv : v = .slice none 0 0
  · subst hv
    have hnil := fun (w : World) => Lib.run_eql_slice_nil (P := Tryd.prog) w 38 _ none 0 0 0 0 Tryd.underlying38
    have HR : Hid (RowN w w.heap.size 45 3 (.slice none 0 0) L) := by
      rcases h.2.2 with ⟨e, h0⟩ | ⟨g, cap, cur, e, _⟩
      · exact ⟨h.1, h.2.1, .inl ⟨rfl, h0⟩⟩
      · cases e
    clear h
    go_enter Tryd.func76, Tryd.ntmps76
    go_wp2
    go_ret
    exact ⟨_, rfl, HR.out, Below.refl _ _⟩
  · obtain ⟨g, c, rfl⟩ := h.live hv
    have hnil := fun (w : World) => Lib.run_eql_slice_nil (P := Tryd.prog) w 38 _ (some ⟨g, 0, none⟩) L.length c 0 0 Tryd.underlying38
    have HR := Lib.hid (h.alloc (.cells #[] 45))
    have ho0 := Lib.hid (RowN.empty (m := 3) (t := 45) w (Nat.le_refl _))
    have HFL := Lib.hid (flat_length 3 L h.1)
    have HL3 := Lib.hid h.1
    clear h hv
    go_enter Tryd.func76, Tryd.ntmps76
    go_wp2_with (at_builtin; refine wpList_append_own _ rfl _ _ 38 rfl w.heap.size 45 i0 (.agg #[.int .i64 0, .int .i64 0, .int .i64 0]) 3 24 Tryd.underlying38 hi hz0 hz1 hz2 rfl (by decide) _ _ _ rfl ho0.out.2 ⟨g, 0, none⟩ L.length c (ints L.flatten) rfl (by rw [ints_length, HFL.out]) HR.out.cells (ints_oneCell _) (by unfold maxLen; simp; omega) (by simp; omega) (by simp) ?_)
    intro v' w1 hown' hgrow _
    have hb : Below w.heap.size w w1 := ((Below.refl _ _).alloc (Nat.le_refl _) _).grown hgrow (by simp) (by simp [Value.ownBlock])
    have HO : Hid (RowN w1 w.heap.size 45 3 v' ([] ++ L)) := ho0.out.cat HL3.out (by rw [List.length_nil, Nat.zero_add]; exact hown')
    rw [List.nil_append] at HO
    clear hown' hgrow
    go_wp2
    go_ret
    exact ⟨_, rfl, HO.out, hb⟩

theorem clear_op {ops : Array Oper} {rest : List Oper} {o : Oper} {a : Act} {w : World} {Q : Exit → Act → World → Prop} (hgd : o.guard = none) (m : Operand) (ho : o.op = .call { callee := .builtin .clear, args := #[m], argTypes := #[42] })
    (b : Nat) (K : List (List Int)) (hm : a.eval m = .map (some b)) (h : Hid (MapK w b K))
    (next : ∀ w', Hid (MapK w' b []) → w.grownBy w' (some b) → w'.heap.size = w.heap.size → wpList Tryd.prog ops Q rest (a.put o.dst (.tuple #[])) w') : wpList Tryd.prog ops Q (o :: rest) a w :=
  wpList_plain hgd fun _ hK => by
    obtain ⟨es, clock, hb, _⟩ := h.out
    have hu : Tryd.prog.underlying 42 = some (.map 45 4) := Tryd.underlying42
    have hrun : (Builtin.clear_ #[42] o.type #[.map (some b)]).run Tryd.prog w = .ok (.tuple #[]) (ChangeMaps.setBlock w b (.map #[] clock)) := by
      simp [Builtin.clear_, run_underlying hu, MapKept.run_getObj_map hb, MapKept.run_setObj_map _ hb, Result.andThen, ChangeMaps.setBlock]
    unfold Oper.wp execOp
    simp only [ho, resolve, invoke, builtin, Sem.run_bind, Sem.run_pure, Result.andThen_ok, List.map_toArray, List.map_cons, List.map_nil, hm, hrun]
    exact hK _ _ (next _ ⟨_, _, ChangeMaps.heap_setBlock_same hb _, by simp, by simp⟩ ⟨rfl, rfl, rfl, by simp [ChangeMaps.setBlock], fun i _ hi => ChangeMaps.heap_setBlock_other hb _ (fun e => hi (by rw [e]))⟩ (by simp [ChangeMaps.setBlock]))
end Go.Proofs.YthefnanhikjddaaDoor

namespace Go.Proofs.YthefnanhikjddaaDoor
open Go.ChangeShapes Go.WideShapes Go.ChangeAt Go.RowKit

theorem turned_lit (x y z : Int) (w : World) :
    Calls Tryd.prog 77 #[.agg (ints [x, y, z]).toArray] w fun e w' => e = .returned (.agg #[.int .i64 y, .int .i64 z, .int .i64 x]) ∧ Below w.heap.size w w' := turned_any x y z w

set_option maxRecDepth 10000 in
set_option maxHeartbeats 4000000 in
theorem tell_any (n mb : Nat) (K0 : List (List Int)) (v : Value) (C : Nat) (L : List (List Int)) (w : World) (hm : MapK w mb K0) (h : RowN w C 45 3 v L) (hL : ∀ t ∈ L, Thr (n : Int) t) (hlen : L.length ≤ 1000) (hn : n ≤ 6) :
    Calls Tryd.prog 45 #[.map (some mb), .int .i64 (n : Int), v] w fun e w' => e = .returned (.tuple #[]) ∧ (∃ K, MapK w' mb K ∧ ∀ t, t ∈ K ↔ Cl L t) ∧ Below mb w w' := by
  obtain ⟨i0, hi, hz0, hz1, hz2⟩ := info_parts three_info
  obtain ⟨A, c, rfl⟩ := h.slice
  have HM0 := Lib.hid hm
  have hmb := hm.lt
  have hvm : ∀ k, (Value.slice A L.length c).ownBlock = some k → some mb ≠ some k := fun k hk e => by
    rcases h.2.2 with ⟨e0, _⟩ | ⟨g, cap, cur, e0, hB, hg, _⟩
    · rw [e0] at hk; cases hk
    · rw [e0] at hk
      obtain ⟨es, clock, hb, _⟩ := hm
      injection hk with hk
      injection e with e
      have hk' : g = mb := by rw [e]; exact hk
      rw [hk', hb] at hg
      cases hg
  have HV := Lib.hid hvm
  have HR0 := Lib.hid h
  have HL := Lib.hid hL
  clear hm h hvm hL
  go_enter Tryd.func45, Tryd.ntmps45
  go_wp2_with (refine clear_op rfl _ rfl mb K0 rfl HM0 ?_; intro w1 HM1 hg1 hs1)
  have HR1 := Lib.hid (HR0.out.grown hg1 HV.out)
  have HB1 : Hid (Below mb w w1) := Lib.hid ((Below.refl mb w).grown hg1 (by omega) (fun k hk => by injection hk; omega))
  clear hg1
  refine (cloneT_any _ C L w1 HR1.out hlen).mono ?_
  rintro e w2 ⟨v2, rfl, hr2, hb2⟩
  have HM2 := Lib.hid (HM1.out.below hb2 (by omega))
  have HB2 := Lib.hid (HB1.out.trans (hb2.mono (by omega)))
  have HR2 := Lib.hid (hr2.less (show mb + 1 ≤ w1.heap.size by omega))
  clear hr2 hb2 HM0 HM1 HR0 HR1 HB1 HV hs1
  go_wp2_with fail
  go_loopg [6] (16 * untold n [] + L.length) (fun q v wr => ∃ W K, Hid (q = 16 * untold n K + W.length) ∧ Hid (16 * untold n K + W.length ≤ 7000) ∧ Hid (RowN wr (mb + 1) 45 3 v W) ∧ Hid (MapK wr mb K) ∧ Hid (Inv3 L K W) ∧ Hid (Below mb w wr))
  case atStart => exact ⟨L, [], Lib.hid rfl, Lib.hid (by have := untold_le n [] (by omega); omega), HR2, HM2, Lib.hid (Inv3.start L), HB2⟩
  case round =>
    obtain ⟨W, K, hq, hqb, hrw, hmk, hinv, hbl⟩ := hrel
    clear HR2 HM2 HB2
    obtain ⟨A2, c2, e⟩ := hrw.out.slice
    subst e
    by_cases hW : W = []
    · subst hW
      have HK := Lib.hid hinv.out.done
      go_wp2
      go_end0
      exact ⟨rfl, ⟨K, hmk.out, HK.out⟩, hbl.out⟩
    · obtain ⟨U, t, e⟩ : ∃ U t, W = U ++ [t] := ⟨W.dropLast, W.getLast hW, (List.dropLast_concat_getLast hW).symm⟩
      subst e
      have hthr := (hinv.out.sound t (.inr (by simp))).thr HL.out
      obtain ⟨a, b, c, e⟩ := of_three hthr.1
      subst e
      have HSM := Lib.hid (thr_sm hthr (by omega))
      have HTH := Lib.hid hthr
      have hrg := (thr3 _ _ _ _).1 hthr
      have hlenW : (U ++ [[a, b, c]]).length = U.length + 1 := by simp
      have HKL : Hid (U.length < (U ++ [[a, b, c]]).length) := by rw [Hid, hlenW]; omega
      obtain ⟨g, d, e0, hgB, hgs, hcap, _, _, _⟩ := hrw.out.elem HKL.out
      injection e0 with e1 _ e3
      subst e3
      subst e1
      have HROW : Hid (rowK (U ++ [[a, b, c]]) U.length = [a, b, c]) := by simp [Hid, rowK]
      have HU : Hid (RowN wr (mb + 1) 45 3 (.slice (some ⟨g, 0, none⟩) U.length c2) U) := by
        have := hrw.out.take (Nat.le_of_lt HKL.out)
        rw [List.take_left' rfl] at this
        exact this
      rw [hlenW] at hq hqb hcap hrw ⊢
      have hql := hqb.out
      clear hthr hW hlenW
      have hmlt := hmk.out.lt
      have hsl := fun V => headN 38 45 elem_threes Tryd.underlying38 i0 hi V g (U.length + 1) c2 U.length (by omega)
      have HNT := Lib.hid (Blk.new (t := 45) wr [0, 0, 0])
      have hul : U.length ≤ 7000 := by omega
      clear hql
      by_cases hin : [a, b, c] ∈ K
      · have HDEC : Hid (decide ([a, b, c] ∈ K) = true) := by simpa [Hid] using hin
        have HIN := Lib.hid hin
        clear hin
        go_wp2_with (first
          | (refine load_elem rfl _ 45 rfl _ rfl Tryd.underlying45 g (U.length + 1) c2 (mb + 1) U.length 3 (U ++ [[a, b, c]]) hrw HKL.out three_size rfl ?_; rw [HROW.out])
          | (refine store_tri rfl _ _ rfl wr.heap.size zero3 [a, b, c] rfl rfl rfl rfl HNT ?_; intro w6 HB6 hg6 hs6; have h6 : Hid (Below wr.heap.size wr w6) := Lib.hid (((Below.refl _ _).alloc (Nat.le_refl _) _).grown hg6 (by simp) (by simp)); have HM6 := Lib.hid (hmk.out.below h6.out hmlt))
          | (refine load_tri rfl _ rfl wr.heap.size [a, b, c] rfl rfl HB6 ?_)
          | (refine look_op rfl _ _ rfl mb K [a, b, c] HSM.out rfl rfl HM6 ?_; rw [HDEC.out]))
        go_wp2
        go_roundg (16 * untold n K + U.length)
        case measure => have := hq.out; omega
        case rel => exact ⟨U, K, Lib.hid rfl, Lib.hid (by have := hqb.out; omega), Lib.hid (HU.out.below h6.out (fun i hi => (HU.out.lt i hi).2)), HM6, Lib.hid (hinv.out.skip HIN.out), Lib.hid (hbl.out.trans (h6.out.mono (by omega)))⟩
      · have HDEC : Hid (decide ([a, b, c] ∈ K) = false) := by simpa [Hid] using hin
        have HIN := Lib.hid hin
        clear hin
        obtain ⟨J, hJ⟩ : ∃ J, J = joinTo ([a, b, c] :: K) a b c n := ⟨_, rfl⟩
        have HPU := Lib.hid (hinv.out.push HL.out)
        have hJl := joinTo_len ([a, b, c] :: K) a b c n
        have HCJ := Lib.hid (fun V (hV : MapK V mb ([a, b, c] :: K)) => joined_any n mb ([a, b, c] :: K) a b c V (by omega) hV (by omega) (by omega) (by omega) (by omega) (by omega) (by omega))
        rw [← hJ] at HPU hJl HCJ
        clear hJ
        have HUC := Lib.hid (untold_cons n K _ HTH.out HIN.out)
        have HLE := Lib.hid hJl
        go_wp2_with (first
          | (refine load_elem rfl _ 45 rfl _ rfl Tryd.underlying45 g (U.length + 1) c2 (mb + 1) U.length 3 (U ++ [[a, b, c]]) hrw HKL.out three_size rfl ?_; rw [HROW.out])
          | (refine store_tri rfl _ _ rfl wr.heap.size zero3 [a, b, c] rfl rfl rfl rfl HNT ?_; intro w6 HB6 hg6 hs6; have h6 : Hid (Below wr.heap.size wr w6) := Lib.hid (((Below.refl _ _).alloc (Nat.le_refl _) _).grown hg6 (by simp) (by simp)); have HM6 := Lib.hid (hmk.out.below h6.out hmlt))
          | (refine load_tri rfl _ rfl wr.heap.size [a, b, c] rfl rfl HB6 ?_)
          | (refine look_op rfl _ _ rfl mb K [a, b, c] HSM.out rfl rfl HM6 ?_; rw [HDEC.out])
          | (refine store_op rfl _ _ _ rfl mb K [a, b, c] HSM.out HIN.out rfl rfl rfl HM6 ?_; intro w7 HM7 hg7 hs7; have HB7 := Lib.hid (HB6.out.grown hg7 (by simp; omega)))
          | (refine load_tri rfl _ rfl wr.heap.size [a, b, c] rfl rfl HB7 ?_))
        have ht6 := HB6.out.lt
        have hz6 := h6.out.size
        have HU7 := Lib.hid ((HU.out.below h6.out (fun i hi => (HU.out.lt i hi).2)).grown hg7 (fun k hk e => by have := (HU.out.lt k hk).1; injection e; omega))
        have HW7 := Lib.hid ((hbl.out.trans (h6.out.mono (Nat.le_of_lt hmlt))).grown hg7 (by omega) (fun k hk => by injection hk; omega))
        clear hg7
        refine (turned_lit a b c w7).mono ?_
        rintro e w8 ⟨rfl, hb8⟩
        have hz8 := hb8.size
        have HU8 := Lib.hid (HU7.out.below hb8 (fun i hi => (HU7.out.lt i hi).2))
        have HM8 := Lib.hid (HM7.out.below hb8 (by omega))
        have HT8 := Lib.hid (HB7.out.below hb8 (by omega))
        have HW8 := Lib.hid (HW7.out.trans (hb8.mono (by omega)))
        clear hb8 HU7 HM7 HB7 HW7 HU HM6 HB6 hg6
        go_wp2_with (at_builtin; refine wpList_append_own _ rfl _ _ 38 rfl (mb + 1) 45 i0 (.agg #[.int .i64 0, .int .i64 0, .int .i64 0]) 3 24 Tryd.underlying38 hi hz0 hz1 hz2 rfl (by decide) _ _ _ rfl (HU8.out.2.alloc _) ⟨w8.heap.size, 0, none⟩ 1 1 (ints [b, c, a]) rfl rfl (World.news_of_block (heap_alloc_new w8 _)) (ints_oneCell _) (by unfold maxLen; omega) (by omega) (by simp; omega) ?_)
        intro v9 w9 hown9 hgr9 _
        have HR9 := Lib.hid (HU8.out.snoc (l := [b, c, a]) rfl hown9)
        have hz9 := hgr9.size
        have HM9 := Lib.hid ((HM8.out.alloc (.cells (ints [b, c, a]).toArray 45)).grown hgr9 (by intro e; have := (HU8.out.lt _ e.symm).1; omega))
        have HT9 := Lib.hid ((HT8.out.alloc (.cells (ints [b, c, a]).toArray 45)).grown hgr9 (fun e => by have h1 : wr.heap.size = g := Option.some.inj e; omega))
        have HW9 := Lib.hid ((HW8.out.alloc (by omega) _).grown hgr9 (by simp; omega) (fun i hi => by have := (HU8.out.lt i hi).1; omega))
        simp only [World.size_alloc] at hz9
        clear hown9 hgr9 HU8 HM8 HT8 HW8
        obtain ⟨U9, hU9⟩ : ∃ U9, U9 = U ++ [[b, c, a]] := ⟨_, rfl⟩
        have HU9 := Lib.hid hU9
        have HLN : Hid (U9.length = U.length + 1) := by rw [Hid, hU9]; simp
        rw [← hU9] at HR9 HPU
        clear hU9
        have HCC := Lib.hid (HCJ.out w9 HM9.out)
        go_wp2_with (first
          | (refine load_tri rfl _ rfl wr.heap.size [a, b, c] rfl rfl HT9 ?_))
        refine HCC.out.mono ?_
        rintro e w10 ⟨g', d', rfl, hrj, hbj⟩
        have hzj := hbj.size
        have HRJ := Lib.hid hrj
        have HR10 := Lib.hid (HR9.out.below hbj (fun i hi => (HR9.out.lt i hi).2))
        have HM10 := Lib.hid (HM9.out.below hbj (by omega))
        have HW10 := Lib.hid (HW9.out.trans (hbj.mono (by omega)))
        have HFL := Lib.hid (flat_length 3 J hrj.1)
        clear hrj hbj HR9 HM9 HW9 HT9 HCC
        go_wp2_with (at_builtin; refine wpList_append_own _ rfl _ _ 38 rfl (mb + 1) 45 i0 (.agg #[.int .i64 0, .int .i64 0, .int .i64 0]) 3 24 Tryd.underlying38 hi hz0 hz1 hz2 rfl (by decide) _ _ _ rfl HR10.out.2 ⟨g', 0, none⟩ J.length d' (ints J.flatten) rfl (by rw [ints_length, HFL.out]) HRJ.out.cells (ints_oneCell _) (by have := HLN.out; unfold maxLen; omega) (by have := HLN.out; omega) (by omega) ?_)
        intro v11 w11 hown11 hgr11 _
        have HR11 := Lib.hid (HR10.out.cat HRJ.out.1 hown11)
        have HM11 := Lib.hid (HM10.out.grown hgr11 (by intro e; have := (HR10.out.lt _ e.symm).1; omega))
        have HW11 := Lib.hid (HW10.out.grown hgr11 (by omega) (fun i hi => by have := (HR10.out.lt i hi).1; omega))
        clear hown11 hgr11 HR10 HM10 HW10
        go_wp2
        go_roundg (16 * untold n ([a, b, c] :: K) + (U9 ++ J).length)
        case measure =>
          have h1 := hq.out
          have h2 := HUC.out
          have h3 := HLN.out
          rw [List.length_append]
          omega
        case rel =>
          exact ⟨U9 ++ J, [a, b, c] :: K, Lib.hid rfl, Lib.hid (by have h1 := hqb.out; have h2 := HUC.out; have h3 := HLN.out; rw [List.length_append]; omega), HR11, HM11, HPU, HW11⟩

set_option maxRecDepth 10000 in
theorem closed_any (n : Nat) (v : Value) (C : Nat) (L : List (List Int)) (w : World) (h : RowN w C 45 3 v L) (hL : ∀ t ∈ L, Thr (n : Int) t) (hlen : L.length ≤ 1000) (hn : n ≤ 6) :
    Calls Tryd.prog 19 #[.int .i64 (n : Int), v] w fun e w' => ∃ K, e = .returned (.map (some w.heap.size)) ∧ MapK w' w.heap.size K ∧ (∀ t, t ∈ K ↔ Cl L t) ∧ Below w.heap.size w w' := by
  have HT := Lib.hid (tell_any n w.heap.size [] v C L (w.alloc (.map #[] 0)) (MapK.made w) (h.alloc _) hL hlen hn)
  have hb0 : Below w.heap.size w (w.alloc (.map #[] 0)) := (Below.refl _ _).alloc (Nat.le_refl _) _
  have hmk := fun W => run_makeMap (P := Tryd.prog) 42 W
  clear h hL
  go_enter Tryd.func19, Tryd.ntmps19
  go_wp2_with fail
  refine HT.out.mono ?_
  rintro e w1 ⟨rfl, ⟨K, hK1, hK2⟩, hb1⟩
  have HK1 := Lib.hid hK1
  have HK2 := Lib.hid hK2
  clear hK1 hK2
  go_wp2
  go_ret
  exact ⟨K, rfl, HK1.out, HK2.out, hb0.trans hb1⟩
end Go.Proofs.YthefnanhikjddaaDoor
