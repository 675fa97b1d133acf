/- The program's array of a ring: made, filled, read. -/
import Derived.Test.YtjpbmhlojpaieaaDoorKit
import Derived.Test.YtjpbmhlojpaieaaDoorFact
import Derived.Laws.Rows
import Derived.Laws.Tables
import Derived.Laws.CopyOwn
namespace Go.Proofs.YtjpbmhlojpaieaaDoor
open Go.ChangeShapes Go.WideShapes Go.ChangeAt Go.RowKit

/-- Block g of w is just the array of the ints P. -/
def Arr (w : World) (g : Nat) (P : List Int) : Prop := w.heap[g]? = some (.cells (ints P).toArray 39 (0, 0))

section
variable {w w' : World} {g : Nat} {P : List Int}
theorem Arr.lt (h : Arr w g P) : g < w.heap.size := by
  rcases Nat.lt_or_ge g w.heap.size with hlt | hge
  · exact hlt
  · unfold Arr at h; rw [Array.getElem?_eq_none hge] at h; cases h
theorem Arr.cell (h : Arr w g P) {i : Nat} (hi : i < P.length) : w.cell? ⟨g, i, none⟩ = some (.int .i64 (P.getD i 0)) := by
  rw [cell_of_row w g i _ _ (0, 0) h, List.getElem?_toArray, ints_get _ _ hi]
theorem Arr.frozen (h : Arr w g P) (i : Nat) : w.frozen? ⟨g, i, none⟩ = false := by
  unfold Arr at h; simp [World.frozen?, h]
theorem Arr.drew (h : Arr w g P) : Arr w.drew g P := h
theorem Arr.drewN (h : Arr w g P) (n : Nat) : Arr (w.drewN n) g P := h
theorem Arr.alloc (h : Arr w g P) (o : Obj) : Arr (w.alloc o) g P := (Below.heap_alloc w o g h.lt).trans h
theorem Arr.set_ (h : Arr w g P) (i : Nat) (u : Int) : Arr (w.setCell ⟨g, i, none⟩ (.int .i64 u)) g (P.set i u) := by
  unfold Arr at h ⊢
  rw [← ints_set, ← List.setIfInBounds_toArray]
  simp [World.setCell, Array.getElem?_modify, h]
theorem Arr.far (h : Arr w g P) {p : Addr} (hp : g ≠ p.block) (u : Value) : Arr (w.setCell p u) g P := (Below.heap_setCell w p u g hp).trans h
theorem Arr.below {B : Nat} (h : Arr w g P) (hb : Below B w w') (hg : g < B) : Arr w' g P := (hb.block g hg).trans h
end

/-- A list of seven, written out. -/
theorem seven {P : List Int} (h : P.length = 7) : ∃ a0 a1 a2 a3 a4 a5 a6, P = [a0, a1, a2, a3, a4, a5, a6] := by
  match P, h with
  | [a0, a1, a2, a3, a4, a5, a6], _ => exact ⟨a0, a1, a2, a3, a4, a5, a6, rfl⟩

/-- The array as a value. -/
abbrev ag (a0 a1 a2 a3 a4 a5 a6 : Int) : Value := .agg #[.int .i64 a0, .int .i64 a1, .int .i64 a2, .int .i64 a3, .int .i64 a4, .int .i64 a5, .int .i64 a6]

theorem ints_oneCellB (P : List Int) : ((ints P).toArray).all (·.oneCell') = true := by
  rw [Array.all_eq_true_iff_forall_mem]
  intro u hu
  exact ints_oneCell P u (by simpa using hu)

theorem ring_size : (Tryd.prog.info? 39).map (·.size) = some 7 := by kernel_rfl

/-- A whole array stored into a block that is an array. -/
theorem store_ring {ops : Array Oper} {rest : List Oper} {o : Oper} {a : Act} {w : World} {Q : Exit → Act → World → Prop} (hgd : o.guard = none) (x y : Operand) (ho : o.op = .store 39 x y)
    (g : Nat) (old P : List Int) (hold : old.length = 7) (hP : P.length = 7) (hx : a.eval x = .pointer (some ⟨g, 0, none⟩)) (hy : a.eval y = .agg (ints P).toArray) (hg : Hid (Arr w g old))
    (h : ∀ w', Hid (Arr w' g P) → w.grownBy w' (some g) → w'.heap.size = w.heap.size → wpList Tryd.prog ops Q rest (a.put o.dst undef) w') : wpList Tryd.prog ops Q (o :: rest) a w := by
  refine wpList_store_row hgd 39 x y ho g (ints P).toArray hx hy 39 (ints old).toArray hg.out (by rw [ring_size]; simp [hP]) (by simp [hP, hold]) (ints_oneCellB P) (h _ ?_ ?_ ?_)
  · exact setRow_heap w g _ _ _ _ hg.out
  · exact ⟨rfl, rfl, rfl, by simp, fun k _ hk => setRow_other w g k _ (fun e => hk (by simp [e]))⟩
  · simp

/-- A whole array loaded. -/
theorem load_ring {ops : Array Oper} {rest : List Oper} {o : Oper} {a : Act} {w : World} {Q : Exit → Act → World → Prop} (hgd : o.guard = none) (x : Operand) (ho : o.op = .load 39 x)
    (g : Nat) (P : List Int) (hP : P.length = 7) (hx : a.eval x = .pointer (some ⟨g, 0, none⟩)) (hg : Hid (Arr w g P))
    (h : wpList Tryd.prog ops Q rest (a.put o.dst (.agg (ints P).toArray)) w) : wpList Tryd.prog ops Q (o :: rest) a w :=
  wpList_load_row hgd 39 x ho g hx 39 _ (0, 0) _ hg.out Tryd.underlying39 rfl (by rw [ring_size]; simp [hP]) h

/-- The result of a function that hands back an array. -/
theorem ret_ring {fn : Func} {R : Ending → World → Prop} {a : Act} {w : World} {p : Tmp} (h : fn.results = #[.cell p 39]) (g : Nat) (P : List Int) (hP : P.length = 7) (hp : a.tmps.getD p undef = .pointer (some ⟨g, 0, none⟩))
    (hg : Hid (Arr w g P)) (hd : a.defers = []) (hR : R (.returned (.agg (ints P).toArray)) w) : bodyPost Tryd.prog fn R .ret a w :=
  bodyPost_ret (results_cell_row h _ _ g 39 _ (0, 0) _ hp hg.out Tryd.underlying39 rfl (by rw [ring_size]; simp [hP])) hd hR

def fillN (k : Nat) : List Int := List.replicate k (-1) ++ List.replicate (7 - k) 0
theorem fillN_length (k : Nat) (h : k ≤ 7) : (fillN k).length = 7 := by simp [fillN]; omega
theorem fillN_step (k : Nat) (h : k < 7) : (fillN k).set k (-1) = fillN (k + 1) := by
  obtain rfl | rfl | rfl | rfl | rfl | rfl | rfl : k = 0 ∨ k = 1 ∨ k = 2 ∨ k = 3 ∨ k = 4 ∨ k = 5 ∨ k = 6 := by omega
  all_goals rfl

theorem empty_any (w : World) :
    Calls Tryd.prog 71 #[] w fun e w' => e = .returned (ag (-1) (-1) (-1) (-1) (-1) (-1) (-1)) ∧ Below w.heap.size w w' := by
  go_enter Tryd.func71, Tryd.ntmps71
  go_wp2
  obtain ⟨W0, h0⟩ : ∃ W, W = w.alloc (.cells #[.int .i64 0, .int .i64 0, .int .i64 0, .int .i64 0, .int .i64 0, .int .i64 0, .int .i64 0] 39) := ⟨_, rfl⟩
  rw [← h0]
  have hs0 : W0.heap.size = w.heap.size + 1 := by rw [h0]; simp
  have hb0 : Below w.heap.size w W0 := by rw [h0]; exact (Below.refl _ _).alloc (Nat.le_refl _) _
  have ha0 : Arr W0 w.heap.size (fillN 0) := by rw [h0]; exact heap_alloc_new w _
  generalize hB : w.heap.size = B at *
  have HB := Lib.hid hB
  clear hB h0
  obtain ⟨W1, h1⟩ : ∃ W, W = W0.alloc (.cells #[.int .i64 0, .int .i64 0, .int .i64 0, .int .i64 0, .int .i64 0, .int .i64 0, .int .i64 0] 39) := ⟨_, rfl⟩
  rw [← h1]
  have hb1 : Below B w W1 := by rw [h1]; exact hb0.alloc (by omega) _
  have ha1 : Arr W1 B (fillN 0) := by rw [h1]; exact ha0.alloc _
  have ha2 : Arr W1 (B + 1) (fillN 0) := by rw [h1, ← hs0]; exact heap_alloc_new W0 _
  clear hs0 hb0 ha0 h1
  go_loopw [3] (fun i wr => ∃ k : Nat, k ≤ 7 ∧ i = .int .i64 k ∧ Arr wr B (fillN 0) ∧ Arr wr (B + 1) (fillN k) ∧ Below B w wr) (fun i _ => 7 - (intOf i).toNat)
  case atStart => exact ⟨0, Nat.zero_le _, rfl, ha1, ha2, hb1⟩
  case round =>
    obtain ⟨k, hk, rfl, hx, hy, hbl⟩ := hrel
    clear hb1 ha1 ha2
    by_cases hlt : k < 7
    · have hc := hy.cell (i := k) (by rw [fillN_length k hk]; exact hlt)
      have hf := hy.frozen k
      have hn := hy.set_ k (-1)
      rw [fillN_step k hlt] at hn
      have HN := Lib.hid hn
      clear hn
      generalize (fillN k).getD k 0 = old at hc
      go_wp2
      go_roundw
      case rel => exact ⟨k + 1, by omega, by go_num, hx.far (by simp) _, HN.out, hbl.setCell (by simp) _⟩
      case measure => simp [intOf]; omega
    · obtain rfl : k = 7 := by omega
      have HX := Lib.hid hx
      have HY := Lib.hid hy
      clear hx hy
      go_wp2_with (first
        | (refine load_ring rfl _ rfl (B + 1) (fillN 7) rfl rfl HY ?_)
        | (refine store_ring rfl _ _ rfl B (fillN 0) (fillN 7) rfl rfl rfl rfl HX ?_; intro w2 HX2 hg2 _))
      try simp only [Exit.inBlock, Exit.then]
      exact ret_ring rfl B _ rfl rfl HX2 rfl ⟨rfl, by rw [HB.out]; exact hbl.grown hg2 (by have := hbl.size; have := HB.out; omega) (by simp)⟩

/-- The list behind an array: n points, -1 behind. -/
def padR (l : List Int) : List Int := l ++ List.replicate (7 - l.length) (-1)
theorem padR_length (l : List Int) (h : l.length ≤ 7) : (padR l).length = 7 := by simp [padR]; omega
theorem padR_get (l : List Int) (k : Nat) (h : k < l.length) : (padR l).getD k 0 = l.getD k 0 := by
  simp [padR, List.getD, List.getElem?_append_left h]
theorem padR_end (l : List Int) (k : Nat) (h : l.length ≤ k) (h7 : k < 7) : (padR l).getD k 0 = -1 := by
  simp [padR, List.getD, List.getElem?_append_right h, List.getElem?_replicate]
  rw [if_pos (by omega)]; rfl

/-- The array of the list l as a value. -/
abbrev agp (l : List Int) : Value := .agg (ints (padR l)).toArray

set_option maxHeartbeats 400000 in
theorem size_any (l : List Int) (w : World) (hl : l.length ≤ 7) (hp : ∀ x ∈ l, 0 ≤ x) :
    Calls Tryd.prog 49 #[agp l] w fun e w' => e = .returned (.int .i64 l.length) ∧ w' = w.alloc (.cells (ints (padR l)).toArray 39) := by
  obtain ⟨a0, a1, a2, a3, a4, a5, a6, hP⟩ := seven (padR_length l hl)
  have hA : ∀ k, k < l.length → ([a0, a1, a2, a3, a4, a5, a6] : List Int).getD k 0 = l.getD k 0 := fun k hk => by rw [← hP]; exact padR_get l k hk
  have hE : ∀ k, l.length ≤ k → k < 7 → ([a0, a1, a2, a3, a4, a5, a6] : List Int).getD k 0 = -1 := fun k hk h7 => by rw [← hP]; exact padR_end l k hk h7
  have hpos : ∀ k, k < l.length → 0 ≤ l.getD k 0 := fun k hk => by
    simp only [List.getD, List.getElem?_eq_getElem hk, Option.getD_some]
    exact hp _ (List.getElem_mem hk)
  unfold agp
  rw [hP]
  show Calls Tryd.prog 49 #[ag a0 a1 a2 a3 a4 a5 a6] w fun e w' => e = .returned (.int .i64 l.length) ∧ w' = w.alloc (.cells #[.int .i64 a0, .int .i64 a1, .int .i64 a2, .int .i64 a3, .int .i64 a4, .int .i64 a5, .int .i64 a6] 39)
  have hw : Arr (w.alloc (.cells #[.int .i64 a0, .int .i64 a1, .int .i64 a2, .int .i64 a3, .int .i64 a4, .int .i64 a5, .int .i64 a6] 39)) w.heap.size [a0, a1, a2, a3, a4, a5, a6] := heap_alloc_new w _
  have HA := Lib.hid hA
  have HE := Lib.hid hE
  have HPOS := Lib.hid hpos
  clear hA hE hpos hp
  go_enter Tryd.func49, Tryd.ntmps49
  go_wp2
  generalize hW : (w.alloc (.cells #[.int .i64 a0, .int .i64 a1, .int .i64 a2, .int .i64 a3, .int .i64 a4, .int .i64 a5, .int .i64 a6] 39)) = W at *
  have HW := Lib.hid hW
  clear hW
  generalize w.heap.size = B at *
  go_loop [3] (fun i => ∃ k : Nat, k ≤ l.length ∧ i = .int .i64 k) (fun i => 7 - (intOf i).toNat)
  case atStart => exact ⟨0, Nat.zero_le _, rfl⟩
  case round =>
    obtain ⟨k, hk, rfl⟩ := hrel
    by_cases h7 : k < 7
    · have hc := hw.cell (i := k) (by simpa using h7)
      by_cases hlt : k < l.length
      · rw [HA.out k hlt] at hc
        have hne : (l.getD k 0 != -1) = true := by have := HPOS.out k hlt; rw [bne_iff_ne]; omega
        generalize l.getD k 0 = x at hc hne
        clear hw
        go_wp2
        go_round
        case rel => exact ⟨k + 1, by omega, by go_num⟩
        case measure => simp [intOf]; omega
      · rw [HE.out k (by omega) h7] at hc
        clear hw
        go_wp2
        go_ret
        obtain rfl : k = l.length := by omega
        exact ⟨rfl, HW.out.symm⟩
    · go_wp2
      go_ret
      obtain rfl : k = l.length := by omega
      exact ⟨rfl, HW.out.symm⟩
end Go.Proofs.YtjpbmhlojpaieaaDoor
