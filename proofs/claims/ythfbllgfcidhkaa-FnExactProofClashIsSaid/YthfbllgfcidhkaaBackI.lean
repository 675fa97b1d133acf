/- ThreeBack of the program. -/
import Derived.Test.YthfbllgfcidhkaaBackT3
namespace Go.Proofs.Ythfbllgfcidhkaa
open Go.ChangeShapes Go.WideShapes Go.ChangeAt Go.RowKit

theorem results_tri {fn : Func} {p : Tmp} (h : fn.results = #[.cell p 74]) (tmps : Array Value) (w : World) (g : Nat) (P : List Int) (hP : P.length = 3)
    (hp : tmps.getD p undef = .pointer (some ⟨g, 0, none⟩)) (hg : Hid (Tri w g P)) : (results fn tmps).run Try.prog w = .ok (.agg (ints P).toArray) w :=
  results_cell_row h _ _ g 74 _ (0, 0) _ hp hg.out Try.underlying74 rfl (by rw [three_size]; simp [hP])
theorem ret_tri {fn : Func} {R : Ending → World → Prop} {a : Act} {w : World} {p : Tmp} (h : fn.results = #[.cell p 74]) (g : Nat) (P : List Int) (hP : P.length = 3) (hp : a.tmps.getD p undef = .pointer (some ⟨g, 0, none⟩))
    (hg : Hid (Tri w g P)) (hd : a.defers = []) (hR : R (.returned (.agg (ints P).toArray)) w) : bodyPost Try.prog fn R .ret a w :=
  bodyPost_ret (results_tri h _ _ g P hP hp hg) hd hR

set_option maxRecDepth 10000 in
theorem tback_any (x y z : Int) (w : World) :
    Calls Try.prog 56 #[.agg (ints [x, y, z]).toArray] w fun e w' => e = .returned (.agg (ints [x, z, y]).toArray) ∧ Below w.heap.size w w' := by
  change Calls Try.prog 56 #[.agg #[.int .i64 x, .int .i64 y, .int .i64 z]] w _
  have hn := Blk.new (t := 74) (w.alloc (.cells (ints [x, y, z]).toArray 74)) [x, z, y]
  rw [show (w.alloc (.cells (ints [x, y, z]).toArray 74)).heap.size = w.heap.size + 1 by simp] at hn
  have HN := Lib.hid hn
  clear hn
  go_enter Try.func56, Try.ntmps56
  go_wp2
  exact ret_tri rfl (w.heap.size + 1) [x, z, y] rfl rfl HN rfl ⟨rfl, ((Below.refl _ _).alloc (Nat.le_refl _) _).alloc (by simp) _⟩

def mixB (L : List (List Int)) (k : Nat) : List (List Int) := back3 (L.take k) ++ L.drop k
theorem mixB_length (L : List (List Int)) (k : Nat) (h : k ≤ L.length) : (mixB L k).length = L.length := by simp [mixB, back3]; omega
theorem mixB_row (L : List (List Int)) (k : Nat) (h : k < L.length) : rowK (mixB L k) k = rowK L k := by
  have hl : (back3 (L.take k)).length = k := by simp [back3]; omega
  simp only [rowK, List.getD, mixB]
  rw [List.getElem?_append_right (by omega), hl, Nat.sub_self, List.getElem?_drop, Nat.add_zero]
theorem mixB_step (L : List (List Int)) (k : Nat) (h : k < L.length) : (mixB L k).set k (turn3 (rowK L k)) = mixB L (k + 1) := by
  have hl : (back3 (L.take k)).length = k := by simp [back3]; omega
  unfold mixB
  rw [List.set_append_right _ _ (by omega), hl, Nat.sub_self, List.drop_eq_getElem_cons h, List.set_cons_zero, ← back3_step L k h, List.append_assoc]
  rfl
theorem back3_row3 (L : List (List Int)) : ∀ l ∈ back3 L, l.length = 3 := fun l hl => by
  simp only [back3, List.mem_map] at hl
  obtain ⟨m, _, rfl⟩ := hl
  rfl

set_option maxRecDepth 10000 in
set_option maxHeartbeats 1000000 in
theorem bkI_any (A : Option Addr) (n c H : Nat) (q : Int) (L : List (List Int)) (w : World) (h : RdS w H A n L) (hH : H ≤ w.heap.size) (_ : tot L ≤ 1048576) :
    Calls Try.prog 28 #[.int .i64 q, .slice A n c] w fun e w' => ∃ v, e = .returned (.tuple #[v, .bool (tel q L)]) ∧ OwnS w' w.heap.size w'.heap.size v (backR q L) ∧ Below w.heap.size w w' := by
  have HC := Lib.hid (readThrees_any A n c H L q w h hH)
  clear h hH
  go_enter Try.func28, Try.ntmps28
  go_wp2_with fail
  refine HC.out.mono ?_
  rintro e W1 ⟨v, rfl, hrow, hb1⟩
  by_cases ht : Tel q L
  · have HTY := Lib.hid (tel_yes ht).1
    have HR : Hid (backR q L = back3 L) := by rw [backR, if_pos ht]; rfl
    rw [(tel_yes ht).2] at hrow
    have HLEN := Lib.hid ht.2.2.1
    rw [(tel_yes ht).1]
    have HTHR := Lib.hid (fun l hl => (ht.2.2.2 l hl).1)
    clear ht HC
    obtain ⟨A1, c1, rfl⟩ := hrow.slice
    obtain ⟨m, hm⟩ : ∃ m, m = L.length := ⟨_, rfl⟩
    have HM := Lib.hid hm
    have hr0 : Hid (RowN W1 w.heap.size 74 3 (.slice A1 m c1) (mixB L 0)) := by
      have e : mixB L 0 = L := by simp [mixB, back3]
      rw [e, hm]; exact hrow
    rw [← hm]
    have HLT := Lib.hid (fun i hi => hrow.lt i hi)
    rw [← hm] at HLT
    clear hrow hm
    generalize hB : w.heap.size = B at *
    have HB := Lib.hid hB
    clear hB
    have hB1 : B ≤ W1.heap.size := by rw [← HB.out]; exact hb1.size
    have hm40 : m ≤ 1000 := by rw [HM.out]; have := HLEN.out; omega
    go_wp2_with fail
    go_loopw [20] (fun i wr => ∃ k : Nat, k ≤ m ∧ i = .int .i64 k ∧ Hid (RowN wr B 74 3 (.slice A1 m c1) (mixB L k)) ∧ Below B w wr) (fun i _ => m - (intOf i).toNat)
    case atStart => exact ⟨0, Nat.zero_le _, rfl, hr0, hb1⟩
    case round =>
      obtain ⟨k, hk, rfl, hrd, hbl⟩ := hrel
      clear hr0 hb1
      have HBL := Lib.hid hbl
      have hBw : B ≤ wr.heap.size := by rw [← HB.out]; exact hbl.size
      clear hbl
      by_cases hlt : k < m
      · have hkl : k < L.length := by rw [← HM.out]; exact hlt
        have hkm : k < (mixB L k).length := by rw [mixB_length L k (by omega)]; exact hkl
        obtain ⟨g, c', e0, hBg, hgs, _, _, _, _⟩ := hrd.out.elem hkm
        rw [mixB_length L k (by omega), ← HM.out] at e0
        injection e0 with e1 _ e3
        subst e3
        subst e1
        have HKM := Lib.hid hkm
        obtain ⟨x, y, z, e⟩ := of_three (HTHR.out _ (rowK_mem hkl))
        have HE : Hid (rowK (mixB L k) k = [x, y, z]) := by rw [mixB_row L k hkl]; exact e
        have HST : Hid ((mixB L k).set k [x, z, y] = mixB L (k + 1)) := by rw [← mixB_step L k hkl, e]; rfl
        clear e hkl hkm
        have HNT := Lib.hid (Blk.new (t := 74) wr [0, 0, 0])
        go_wp2_with (first
          | (refine load_elem rfl _ 74 rfl _ rfl Try.underlying74 g m c1 B k 3 (mixB L k) hrd HKM.out three_size rfl ?nx; rw [HE.out])
          | (refine store_tri rfl _ _ rfl wr.heap.size zero3 [x, y, z] rfl rfl rfl rfl HNT ?_; intro w6 HB6 hg6 hs6; have h6 : Hid (Below wr.heap.size wr w6) := Lib.hid (((Below.refl _ _).alloc (Nat.le_refl _) _).grown hg6 (by simp) (by simp)))
          | (refine load_tri rfl _ rfl wr.heap.size [x, y, z] rfl rfl HB6 ?_)
          | (go_at_call 56; refine (tback_any x y z _).mono ?_; rintro e w7 ⟨rfl, hb7⟩; have h7 : Hid (Below wr.heap.size wr w7) := Lib.hid (h6.out.trans (hb7.mono h6.out.size)); have HR7 := Lib.hid (hrd.out.below h7.out (fun i hi => (hrd.out.lt i hi).2)))
          | (refine store_elem rfl _ _ 74 rfl g m c1 B k 3 (mixB L k) [x, z, y] HR7 HKM.out rfl three_size rfl rfl ?_; intro w8 HR8 hg8))
        rw [HST.out] at HR8
        have HB8 := Lib.hid ((HBL.out.trans (h7.out.mono hBw)).grown hg8 (by have := h7.out.size; omega) (by simp; omega))
        go_wp2
        go_roundw
        case rel => exact ⟨k + 1, by omega, by go_num, HR8, HB8.out⟩
        case measure => simp [intOf]; omega
      · obtain rfl : k = m := by omega
        have hrd' := hrd.out
        have e : mixB L k = back3 L := by rw [HM.out]; simp [mixB]
        rw [e] at hrd'
        have hbl' : (back3 L).length = k := by rw [HM.out]; simp [back3]
        have HBK := Lib.hid hbl'
        have HF := Lib.hid (threeLists_any (.slice A1 k c1) B (back3 L) wr hrd' (by rw [hbl', HM.out]; have := HLEN.out; omega))
        clear hrd' e hbl' hrd
        go_wp2_with fail
        refine HF.out.mono ?_
        rintro e w9 ⟨rfl, ho9, hb9⟩
        go_wp2
        go_ret2
        refine ⟨.slice (some ⟨wr.heap.size, 0, none⟩) (back3 L).length (back3 L).length, by rw [HTY.out]; rfl, ?_, by rw [HB.out]; exact HBL.out.trans (hb9.mono hBw)⟩
        rw [HR.out, HB.out]
        exact ho9.more hBw (Nat.le_refl _)
  · have HTY := Lib.hid (tel_no ht).1
    have HR : Hid (backR q L = []) := by rw [backR, if_neg ht]; rfl
    rw [(tel_no ht).1]
    clear ht hrow HC
    go_wp2_with fail
    go_ret2
    exact ⟨.slice none 0 0, by rw [HTY.out]; rfl, by rw [HR.out]; exact .inl ⟨rfl, rfl⟩, hb1⟩
end Go.Proofs.Ythfbllgfcidhkaa
