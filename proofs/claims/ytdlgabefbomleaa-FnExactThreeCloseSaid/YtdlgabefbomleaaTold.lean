/- The program's closing: all that waits is told, one after another, until nothing waits. -/
import Derived.Test.YtdlgabefbomleaaJoin
import Derived.Test.YtdlgabefbomleaaBackI
import Derived.Test.YtdlgabefbomleaaAgree
import Derived.Test.YtdlgabefbomleaaDelF
import Derived.Deep.LoopGhost
namespace Go.Proofs.Ytdlgabefbomleaa
open Go.ChangeShapes Go.WideShapes Go.ChangeAt Go.RowKit

open Classical in
noncomputable def cloL (n : Nat) (L : List (List Int)) : List (List Int) := (everyL n).filter fun t => decide (Cl L t)

theorem thr_sm {n : Nat} {t : List Int} (h : Thr (n : Int) t) (hn : n ≤ 7) : Sm t := by
  obtain ⟨x, y, z, rfl⟩ := of_three h.1
  rw [thr3] at h
  exact ⟨x, y, z, rfl, by omega, by omega, by omega, by omega, by omega, by omega⟩

section
variable {w w' : World} {D m : Nat} {t : TypeId}
theorem RowN.take {g n c : Nat} {X : List (List Int)} (h : RowN w D t m (.slice (some ⟨g, 0, none⟩) n c) X) {i : Nat} (hi : i ≤ X.length) : RowN w D t m (.slice (some ⟨g, 0, none⟩) i c) (X.take i) := by
  rcases h.2.2 with ⟨e, _⟩ | ⟨g', c', cur, e, hB, hg, hc, hcm, hs, ht⟩
  · cases e
  · injection e with e1 e2 e3
    injection e1 with e1
    injection e1 with e1
    subst e1; subst e3; subst e2
    have hrows : ∀ l ∈ X.take i, l.length = m := fun l hl => h.1 l (List.mem_of_mem_take hl)
    have hxl : (X.take i).length = i := by simp; omega
    have him : i * m ≤ X.length * m := Nat.mul_le_mul_right _ hi
    have hfl : (X.take i).flatten.length = i * m := by rw [flat_length m _ hrows, hxl]
    have hfx : X.flatten.take (i * m) = (X.take i).flatten := by
      conv => lhs; rw [← List.take_append_drop i X, List.flatten_append]
      exact List.take_left' hfl
    refine ⟨hrows, by rw [hxl, ints_length, hfl], .inr ⟨g, c, cur, by rw [hxl], hB, hg, by rw [hxl]; omega, hcm, hs, ?_⟩⟩
    rw [hxl]
    have : cur.toList.take (i * m) = (cur.toList.take (X.length * m)).take (i * m) := by rw [List.take_take, Nat.min_eq_left him]
    rw [this, ht, ← hfx]
    simp [ints]
theorem RowN.cells {g n c : Nat} {M : List (List Int)} (h : RowN w D t m (.slice (some ⟨g, 0, none⟩) n c) M) : ∀ j u, (ints M.flatten)[j]? = some u → w.cell? ((⟨g, 0, none⟩ : Addr).add j) = some u := by
  intro j u hu
  rcases h.2.2 with ⟨e, _⟩ | ⟨g', c', cur, e, hB, hg, hc, hcm, hs, ht⟩
  · cases e
  · injection e with e1 e2 e3
    injection e1 with e1
    injection e1 with e1
    subst e1
    rw [Addr.add_lit, Nat.zero_add, cell_of_row w g j _ _ (0, 0) hg]
    rw [← ht, List.getElem?_take] at hu
    split at hu
    · rw [← Array.getElem?_toList]; exact hu
    · cases hu
theorem RowN.cat {B : Nat} {v v' : Value} {M N : List (List Int)} (h : RowN w B t m v M) (hN : ∀ l ∈ N, l.length = m) (ho : w'.ownsRow B t m v' (M.length + N.length) (ints M.flatten ++ ints N.flatten)) : RowN w' B t m v' (M ++ N) := by
  refine ⟨fun r hr => ?_, ?_⟩
  · rcases List.mem_append.1 hr with h1 | h1
    · exact h.1 r h1
    · exact hN r h1
  · rw [List.length_append, List.flatten_append]
    have e : ints (M.flatten ++ N.flatten) = ints M.flatten ++ ints N.flatten := by simp [ints]
    rw [e]; exact ho
end

set_option maxRecDepth 10000 in
theorem turned_any (x y z : Int) (w : World) :
    Calls Try.prog 112 #[.agg (ints [x, y, z]).toArray] w fun e w' => e = .returned (.agg (ints [y, z, x]).toArray) ∧ Below w.heap.size w w' := by
  change Calls Try.prog 112 #[.agg #[.int .i64 x, .int .i64 y, .int .i64 z]] w _
  have hn := Blk.new (t := 52) (w.alloc (.cells (ints [x, y, z]).toArray 52)) [y, z, x]
  rw [show (w.alloc (.cells (ints [x, y, z]).toArray 52)).heap.size = w.heap.size + 1 by simp] at hn
  have HN := Lib.hid hn
  clear hn
  go_enter Try.func112, Try.ntmps112
  go_wp2
  exact ret_tri rfl (w.heap.size + 1) [y, z, x] rfl rfl HN rfl ⟨rfl, ((Below.refl _ _).alloc (Nat.le_refl _) _).alloc (by simp) _⟩

set_option maxRecDepth 10000 in
theorem sorted1_any (bx mb : Nat) (K : List (List Int)) (t : List Int) (w : World) (hbx : w.cell? ⟨bx, 0, none⟩ = some (.map (some mb))) (hm : MapK w mb K) (ht : Sm t) :
    Calls Try.prog 96 #[.agg (ints t).toArray, .pointer (some ⟨bx, 0, none⟩)] w fun e w' => e = .returned (.bool (!decide (t ∈ K))) ∧ Below w.heap.size w w' := by
  have ht' := ht
  obtain ⟨x, y, z, rfl, _⟩ := ht'
  have hbw : bx < w.heap.size := World.block_lt_of_cell? w _ hbx
  have kb : Below w.heap.size w (w.alloc (.cells (ints [x, y, z]).toArray 52)) := (Below.refl _ _).alloc (Nat.le_refl _) _
  have hl := (hm.alloc (.cells (ints [x, y, z]).toArray 52)).look ht
  have k3 := (kb.cell (p := ⟨bx, 0, none⟩) hbw).trans hbx
  have HT : Hid (Tri (w.alloc (.cells (ints [x, y, z]).toArray 52)) w.heap.size [x, y, z]) := Blk.new w _
  obtain ⟨r, hr⟩ : ∃ r, r = decide ([x, y, z] ∈ K) := ⟨_, rfl⟩
  rw [← hr] at hl ⊢
  clear hr hm ht
  have KB := Lib.hid kb
  clear kb
  simp only [tv, ints, List.map_cons, List.map_nil] at hl k3 HT KB
  have hl2 : (Instr.lookup 71 (.map (some mb)) (.agg (ints [x, y, z]).toArray) false).run Try.prog (w.alloc (.cells #[.int .i64 x, .int .i64 y, .int .i64 z] 52)) = .ok (.bool r) (w.alloc (.cells #[.int .i64 x, .int .i64 y, .int .i64 z] 52)) := hl
  clear hl
  change Calls Try.prog 96 #[.agg #[.int .i64 x, .int .i64 y, .int .i64 z], .pointer (some ⟨bx, 0, none⟩)] w _
  go_enter Try.func96, Try.ntmps96
  go_wp2_with (refine load_tri rfl _ rfl w.heap.size [x, y, z] rfl rfl HT ?_)
  go_ret
  exact ⟨rfl, KB.out⟩

set_option maxRecDepth 10000 in
set_option maxHeartbeats 1000000 in
theorem sorted_any (n mb : Nat) (K : List (List Int)) (w : World) (h7 : n ≤ 7) (hm : MapK w mb K) :
    Calls Try.prog 68 #[.map (some mb), .int .i64 (n : Int)] w fun e w' => ∃ v', e = .returned v' ∧ RowN w' w.heap.size 52 3 v' ((everyL n).filter fun t => decide (t ∈ K)) ∧ Below w.heap.size w w' := by
  obtain ⟨W, hW⟩ : ∃ W, W = w.alloc (.cells #[.map (some mb)] 71) := ⟨_, rfl⟩
  have kb : Below w.heap.size w W := by rw [hW]; exact (Below.refl _ _).alloc (Nat.le_refl _) _
  have k2 : W.heap.size = w.heap.size + 1 := by rw [hW]; simp
  have k3 : W.cell? ⟨w.heap.size, 0, none⟩ = some (.map (some mb)) := by rw [hW]; simp
  have k4 := hm.below kb hm.lt
  have HF : Hid (∀ V, Below W.heap.size W V → ∀ t ∈ everyL n, Calls Try.prog 96 #[.agg (ints t).toArray, .pointer (some ⟨w.heap.size, 0, none⟩)] V fun e w' => e = .returned (.bool (!decide (t ∈ K))) ∧ Below V.heap.size V w') := fun V hV t ht =>
    sorted1_any w.heap.size mb K t V ((hV.cell (p := ⟨w.heap.size, 0, none⟩) (by simp; omega)).trans k3) (k4.below hV k4.lt) (thr_sm ((every_thr n t).1 ht) h7)
  have HEL := Lib.hid (everyL_len n h7)
  have HR : Hid ((everyL n).filter (fun t => !(!decide (t ∈ K))) = (everyL n).filter fun t => decide (t ∈ K)) := by simp [Hid]
  have hE := Lib.hid (enters_fn Try.func96 (by decide) rfl)
  clear hm k3 k4
  have HB := Lib.hid kb
  have hBW : w.heap.size ≤ W.heap.size := by omega
  clear kb k2
  go_enter Try.func68, Try.ntmps68
  go_wp2_with fail
  rw [← hW]
  clear hW
  generalize hBB : w.heap.size = B at *
  have HBB := Lib.hid hBB
  clear hBB
  refine (allThrees_any n W h7).mono ?_
  rintro e w1 ⟨v1, rfl, hr1, hb1⟩
  have HR1 := Lib.hid hr1
  have HB1 := Lib.hid hb1
  have hs1 := hb1.size
  clear hr1 hb1
  go_wp2_with fail
  refine (deleteF_three 96 hE.out (.pointer (some ⟨B, 0, none⟩)) (fun t => !decide (t ∈ K)) W.heap.size v1 _ w1 HR1.out hs1 (by have := HEL.out; omega) (fun V hV => HF.out V (HB1.out.trans hV))).mono ?_
  rintro e w2 ⟨v2, rfl, hr2, hb2⟩
  rw [HR.out] at hr2
  go_wp2
  go_ret
  exact ⟨_, rfl, by rw [HBB.out]; exact hr2.less hBW, by rw [HBB.out]; exact (HB.out.trans (HB1.out.mono hBW)).trans (hb2.mono hBW)⟩

set_option maxRecDepth 10000 in
set_option maxHeartbeats 1000000 in
theorem cloneT_any (v : Value) (C : Nat) (L : List (List Int)) (w : World) (h : RowN w C 52 3 v L) (hn : L.length ≤ 1000) :
    Calls Try.prog 111 #[v] w fun e w' => ∃ v', e = .returned v' ∧ RowN w' w.heap.size 52 3 v' L ∧ Below w.heap.size w w' := by
  obtain ⟨i0, hi, hz0, hz1, hz2⟩ := info_parts three_info
  by_cases hv : v = .slice none 0 0
  · subst hv
    have hnil := fun (w : World) => Lib.run_eql_slice_nil (P := Try.prog) w 61 _ none 0 0 0 0 Try.underlying61
    have HR : Hid (RowN w w.heap.size 52 3 (.slice none 0 0) L) := by
      rcases h.2.2 with ⟨e, h0⟩ | ⟨g, cap, cur, e, _⟩
      · exact ⟨h.1, h.2.1, .inl ⟨rfl, h0⟩⟩
      · cases e
    clear h
    go_enter Try.func111, Try.ntmps111
    go_wp2
    go_ret
    exact ⟨_, rfl, HR.out, Below.refl _ _⟩
  · obtain ⟨g, c, rfl⟩ := h.live hv
    have hnil := fun (w : World) => Lib.run_eql_slice_nil (P := Try.prog) w 61 _ (some ⟨g, 0, none⟩) L.length c 0 0 Try.underlying61
    have HR := Lib.hid (h.alloc (.cells #[] 52))
    have ho0 := Lib.hid (RowN.empty (m := 3) (t := 52) w (Nat.le_refl _))
    have HFL := Lib.hid (flat_length 3 L h.1)
    have HL3 := Lib.hid h.1
    clear h hv
    go_enter Try.func111, Try.ntmps111
    go_wp2_with (at_builtin; refine wpList_append_own _ rfl _ _ 61 rfl w.heap.size 52 i0 (.agg #[.int .i64 0, .int .i64 0, .int .i64 0]) 3 24 Try.underlying61 hi hz0 hz1 hz2 rfl (by decide) _ _ _ rfl ho0.out.2 ⟨g, 0, none⟩ L.length c (ints L.flatten) rfl (by rw [ints_length, HFL.out]) HR.out.cells (ints_oneCell _) (by unfold maxLen; simp; omega) (by simp; omega) (by simp) ?_)
    intro v' w1 hown' hgrow _
    have hb : Below w.heap.size w w1 := ((Below.refl _ _).alloc (Nat.le_refl _) _).grown hgrow (by simp) (by simp [Value.ownBlock])
    have HO : Hid (RowN w1 w.heap.size 52 3 v' ([] ++ L)) := ho0.out.cat HL3.out (by rw [List.length_nil, Nat.zero_add]; exact hown')
    rw [List.nil_append] at HO
    clear hown' hgrow
    go_wp2
    go_ret
    exact ⟨_, rfl, HO.out, hb⟩

theorem clear_op {ops : Array Oper} {rest : List Oper} {o : Oper} {a : Act} {w : World} {Q : Exit → Act → World → Prop} (hgd : o.guard = none) (m : Operand) (ho : o.op = .call { callee := .builtin .clear, args := #[m], argTypes := #[71] })
    (b : Nat) (K : List (List Int)) (hm : a.eval m = .map (some b)) (h : Hid (MapK w b K))
    (next : ∀ w', Hid (MapK w' b []) → w.grownBy w' (some b) → w'.heap.size = w.heap.size → wpList Try.prog ops Q rest (a.put o.dst (.tuple #[])) w') : wpList Try.prog ops Q (o :: rest) a w :=
  wpList_plain hgd fun _ hK => by
    obtain ⟨es, clock, hb, _⟩ := h.out
    have hu : Try.prog.underlying 71 = some (.map 52 4) := Try.underlying71
    have hrun : (Builtin.clear_ #[71] o.type #[.map (some b)]).run Try.prog w = .ok (.tuple #[]) (ChangeMaps.setBlock w b (.map #[] clock)) := by
      simp [Builtin.clear_, run_underlying hu, MapKept.run_getObj_map hb, MapKept.run_setObj_map _ hb, Result.andThen, ChangeMaps.setBlock]
    unfold Oper.wp execOp
    simp only [ho, resolve, invoke, builtin, Sem.run_bind, Sem.run_pure, Result.andThen_ok, List.map_toArray, List.map_cons, List.map_nil, hm, hrun]
    exact hK _ _ (next _ ⟨_, _, ChangeMaps.heap_setBlock_same hb _, by simp, by simp⟩ ⟨rfl, rfl, rfl, by simp [ChangeMaps.setBlock], fun i _ hi => ChangeMaps.heap_setBlock_other hb _ (fun e => hi (by rw [e]))⟩ (by simp [ChangeMaps.setBlock]))
end Go.Proofs.Ytdlgabefbomleaa
