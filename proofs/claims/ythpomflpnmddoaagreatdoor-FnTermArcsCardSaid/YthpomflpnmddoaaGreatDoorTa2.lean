/- TermArcs: the program's. -/
import Derived.Test.YthpomflpnmddoaaGreatDoorTa1
import Derived.Test.YthpomflpnmddoaaGreatDoorSoA
namespace Go.Proofs.YthpomflpnmddoaaGreatDoor
open Go.ChangeShapes Go.WideShapes Go.ChangeAt Go.RowKit Go.Sort

theorem enters_f9 {f : FuncId} {fn : Func} (hf : Tryz.prog.funcs[f]? = some fn) (hn : (fn.name == "runtime.NumGoroutine") = false) (hb : fn.body.isNone = false) (args : Array Value) (w : World) : (callFunc f args).run Tryz.prog w = .ok (.enter f args) w := by
  have h1 : ¬ fn.name = "runtime.NumGoroutine" := by simpa using hn
  have h2 : ¬ fn.body = none := by
    intro e
    rw [e] at hb
    cases hb
  simp [callFunc, go_sem, hf, h1, h2]
/-- A row of the call's own put in order. -/
theorem sort_own (D : Nat) (v : Value) (l : List Int) (w : World) (h : Own w D v l) (hl : l.length ≤ 1000) :
    Calls Tryz.prog 18 #[v] w fun e w' => e = .returned (.tuple #[]) ∧ Own w' D v (l.mergeSort fun x y => decide (x ≤ y)) ∧ Below D w w' := by
  have hms : (l.mergeSort fun x y => decide (x ≤ y)).length = l.length := List.length_mergeSort _
  rcases h.2 with ⟨e, h0⟩ | ⟨g, cap, cur, e, hB, hg, hn, hm, hs, ht⟩
  · have hl0 : l = [] := List.eq_nil_of_length_eq_zero h0
    subst hl0
    subst e
    refine (Tryz.slices_Sort_int_none none 0 w).mono fun e w' ⟨he, hw⟩ => ⟨he, ?_, ?_⟩
    · subst hw; simpa using h
    · subst hw; exact Below.refl _ _
  · subst e
    have hlt : g < w.heap.size := (Array.getElem?_eq_some_iff.1 hg).1
    have hcl : ∀ j (hj : j < l.length), cur[j]? = some (.int .i64 l[j]) := fun j hj => by
      have h1 : (cur.toList.take (l.length * 1))[j]? = (ints l)[j]? := by rw [ht]
      rw [List.getElem?_take, if_pos (by omega)] at h1
      simpa [ints, hj] using h1
    have hH : Holds (Value.int .i64) w g 0 l.toArray := by
      intro j hj
      have hj' : j < l.length := by simpa using hj
      rw [Nat.zero_add]
      refine ⟨?_, frozen_of_row w g j cur _ hg⟩
      rw [cell_of_row w g j cur _ _ hg, hcl j hj']
      simp [getElem!_pos, hj']
    refine (Tryz.slices_Sort_int g 0 cap l w hH hlt (by omega)).mono fun e w' ⟨he, q, os, hw⟩ => ⟨he, ?_, ?_⟩
    · subst hw
      refine ⟨by simp [hms], .inr ⟨g, cap, Sort.putCells (Value.int .i64) 0 (l.mergeSort fun x y => decide (x ≤ y)).toArray cur, by rw [hms], hB, ?_, by rw [hms]; exact hn, hm, by simp [Sort.putCells]; omega, ?_⟩⟩
      · have h1 : (putRow (Value.int .i64) (Sort.ahead w q) g 0 (l.mergeSort fun x y => decide (x ≤ y)).toArray).heap[g]? = some (.cells (Sort.putCells (Value.int .i64) 0 (l.mergeSort fun x y => decide (x ≤ y)).toArray cur) 3 (0, 0)) := by
          simp [putRow, mapBlock, Array.getElem?_modify, onCells]
          exact ⟨_, hg, rfl⟩
        have h2 := (Array.getElem?_eq_some_iff.1 h1).1
        rw [← h1]
        simp [grow, Array.getElem?_append_left h2]
      · apply List.ext_getElem?
        intro j
        rw [List.getElem?_take, hms]
        by_cases hj : j < l.length * 1
        · rw [if_pos hj]
          have hj' : j < cur.size := by omega
          have hj2 : j < l.length := by omega
          have e : cur[j]? = some cur[j] := Array.getElem?_eq_getElem hj'
          simp [Sort.putCells, e, hj2, ints, hms]
        · rw [if_neg hj]
          have hj3 : l.length ≤ j := by omega
          simp [ints]
          rw [List.getElem?_eq_none (by rw [hms]; exact hj3)]
          rfl
    · subst hw
      refine ⟨rfl, rfl, rfl, by simp [grow, putRow, mapBlock, Sort.ahead], fun k hk => ?_⟩
      have h2 : k < (putRow (Value.int .i64) (Sort.ahead w q) g 0 (l.mergeSort fun x y => decide (x ≤ y)).toArray).heap.size := by simp [putRow, mapBlock, Sort.ahead]; omega
      simp [grow, Array.getElem?_append_left h2]
      simp [putRow, mapBlock, Sort.ahead, Array.getElem?_modify]
      omega

theorem sorted_arcs {t : Tm} (hk : t.ok) (hT : Tell (ptsU t.row)) : ((intsN t.sets).filter fun x => !(x == ((2 ^ t.row.length - 1 : Nat) : Int))).mergeSort (fun x y => decide (x ≤ y)) = t.arcs := by
  refine arcs_of hk hT ?_ (List.mergeSort_perm _ _)
  have := List.pairwise_mergeSort (le := fun (x y : Int) => decide (x ≤ y)) (fun a b c h1 h2 => by simp at h1 h2 ⊢; omega) (fun a b => by simp; omega) ((intsN t.sets).filter fun x => !(x == ((2 ^ t.row.length - 1 : Nat) : Int)))
  exact this.imp fun h => by simpa using h
theorem whole_any (x m : Int) (g : Nat) (W : World) (hc : W.cell? ⟨g, 0, none⟩ = some (.int .i64 m)) :
    Calls Tryz.prog 17 #[.int .i64 x, .pointer (some ⟨g, 0, none⟩)] W fun e w' => e = .returned (.bool (x == m)) ∧ Below W.heap.size W w' := by
  go_enter Tryz.func17, Tryz.ntmps17
  go_wp2
  go_ret
  exact ⟨rfl, Below.refl _ _⟩
/-- The arcs of a text's terms in brackets. -/
def tarcR (l : List UInt8) : List Int := match ringT l with | none => [] | some t => t.arcs
theorem tarcR_length (l : List UInt8) : (tarcR l).length ≤ 128 := by
  unfold tarcR
  rcases h : ringT l with _ | t
  · simp
  · have h7 := (ringT_ok h).2.2.1
    rw [ptsU_len] at h7
    have h1 : t.arcs.length ≤ 2 ^ t.row.length - 1 := by
      unfold Tm.arcs
      rw [List.length_map]
      exact Nat.le_trans (List.length_filter_le _ _) (by simp)
    have h2 : 2 ^ t.row.length ≤ 2 ^ 7 := Nat.pow_le_pow_right (by omega) h7
    show t.arcs.length ≤ 128
    omega
attribute [local go_sem ↓] ldR_fold stR_fold in
theorem arcsI_no (s : ByteArray) (w : World) (hand : Hand w) (hs : s.size ≤ 1048576) (h : ringT s.data.toList = none) : Calls Tryz.prog 5 #[.string s] w fun e w' => ∃ v, e = .returned (.tuple #[v, .bool false]) ∧ Own w' w.heap.size v [] ∧ Below w.heap.size w w' := by
  have HD := Lib.hid ((rrNo7 s hs h).out w hand)
  clear h
  go_enter Tryz.func5, Tryz.ntmps5
  go_wp2_with (go_at_call 12; refine HD.out.mono ?_; rintro e w1 ⟨rfl, hb1⟩; obtain ⟨W2, r2, a2, b2⟩ := put7 w1 (-1) (-1) (-1) (-1) (-1) (-1) (-1))
  go_ret2
  exact ⟨_, rfl, ⟨rfl, .inl ⟨rfl, rfl⟩⟩, hb1.trans (b2.out.mono hb1.size)⟩
attribute [local go_sem ↓] ldR_fold stR_fold in
set_option maxRecDepth 10000 in
set_option maxHeartbeats 1000000 in
theorem arcsI_yes (s : ByteArray) (w : World) (hand : Hand w) (hs : s.size ≤ 1048576) (t : Tm) (h : ringT s.data.toList = some t) : Calls Tryz.prog 5 #[.string s] w fun e w' => ∃ v, e = .returned (.tuple #[v, .bool true]) ∧ Own w' w.heap.size v t.arcs ∧ Below w.heap.size w w' := by
  obtain ⟨hok, hlen, h60⟩ := rdT_ok (ringT_ok h).1
  have hT := (ringT_ok h).2
  have HSA := Lib.hid (sorted_arcs hok hT)
  have hsl := sets_le t
  have hs60 : t.sets.length ≤ 60 := by omega
  have HST := Lib.hid (fun (v : Value) (W : World) (hv : TR W (fun b => b < W.heap.size) t v) => setI_all t.len t v W (Nat.le_refl _) (by omega) hok hv)
  obtain ⟨q0, q1, q2, q3, q4, q5, q6, hQ, HC⟩ := rrYes7 s hs t h
  have HD := Lib.hid (HC.out w hand)
  have hcl : (cutL (ptsU t.row) 0).length = t.row.length := by rw [cutL_length, ptsU_len]
  have h7 : t.row.length ≤ 7 := by have := hT.2.1; rwa [ptsU_len] at this
  have hpos : ∀ x ∈ cutL (ptsU t.row) 0, 0 ≤ x := by
    intro x hx
    have h3 := hT.1
    unfold cutL at hx
    obtain ⟨i, hi, rfl⟩ := List.mem_map.1 hx
    have hlt : ((ptsU t.row).idxOf 0 + i) % (ptsU t.row).length < (ptsU t.row).length := Nat.mod_lt _ (by omega)
    exact (hT.2.2.1 _ (getD_mem _ _ hlt)).1
  have HSZ := fun W => size_any (cutL (ptsU t.row) 0) W (by rw [hcl]; exact h7) hpos
  simp only [agp] at HSZ
  rw [hQ.out, hcl] at HSZ
  simp only [ints, List.map_cons, List.map_nil] at HSZ
  have HSI := Lib.hid HSZ
  obtain ⟨n, hn⟩ : ∃ n, n = t.row.length := ⟨_, rfl⟩
  rw [← hn] at HSA HSI h7
  obtain ⟨m, hm⟩ : ∃ m : Int, m = ((2 ^ n - 1 : Nat) : Int) := ⟨_, rfl⟩
  have HFU := Lib.hid (fun W => fullSet_any n W h7)
  rw [← hm] at HSA HFU
  clear HC h hcl hpos hT HSZ hok hlen h60 hsl hn hm
  go_enter Tryz.func5, Tryz.ntmps5
  go_wp2_with fail
  refine HD.out.mono ?_
  rintro e w1 ⟨v, rfl, ht, hb1⟩
  obtain ⟨W2, r2, a2, b2⟩ := put7 w1 q0 q1 q2 q3 q4 q5 q6
  have r8 := ldR_run a2.out rfl
  simp only [ints, List.map_cons, List.map_nil] at r8
  have HB2 := Lib.hid (hb1.trans (b2.out.mono hb1.size))
  have HT2 := Lib.hid (TR.keep (D' := fun b => b < W2.heap.size) (fun k hk => b2.out.block k hk) (fun k hk => by have := b2.out.size; omega) _ _ ht)
  obtain ⟨T, x, rfl⟩ := ht.iface
  clear ht hb1 HD a2 b2
  go_wp2_with (first
    | (go_at_call 14; refine (HSI.out W2).mono ?_; rintro e w' ⟨rfl, rfl⟩)
    | (go_at_call 13; refine (HFU.out _).mono ?_; rintro e w' ⟨rfl, rfl⟩))
  obtain ⟨G, hG⟩ : ∃ G, G = W2.heap.size + 1 := ⟨_, rfl⟩
  have HG := Lib.hid hG
  refine (HST.out _ _ (TR.keep (fun k hk => (Below.heap_alloc _ _ k (by simp; omega)).trans (Below.heap_alloc W2 _ k hk)) (fun k hk => by simp; omega) _ _ HT2.out)).mono ?_
  rintro e w5 ⟨v5, rfl, ho5, hb5⟩
  have hcX : ((W2.alloc (.cells #[.int .i64 q0, .int .i64 q1, .int .i64 q2, .int .i64 q3, .int .i64 q4, .int .i64 q5, .int .i64 q6] 35)).alloc (.cells #[.int .i64 m] 3)).cell? ⟨G, 0, none⟩ = some (.int .i64 m) := by rw [hG]; simp
  have hz : ((W2.alloc (.cells #[.int .i64 q0, .int .i64 q1, .int .i64 q2, .int .i64 q3, .int .i64 q4, .int .i64 q5, .int .i64 q6] 35)).alloc (.cells #[.int .i64 m] 3)).heap.size = G + 1 := by rw [hG]; simp
  rw [hz] at ho5 hb5
  have hc5 := (hb5.cell (p := ⟨G, 0, none⟩) (by show G < G + 1; omega)).trans hcX
  have hs5 := hb5.size
  rw [hz] at hs5
  have HF : Hid (∀ V, Below (G + 1) w5 V → ∀ x ∈ intsN t.sets, Calls Tryz.prog 17 #[.int .i64 x, .pointer (some ⟨G, 0, none⟩)] V fun e w' => e = .returned (.bool (x == m)) ∧ Below V.heap.size V w') := fun V hV x _ =>
    whole_any x m G V ((hV.cell (p := ⟨G, 0, none⟩) (by show G < G + 1; omega)).trans hc5)
  have HDF := Lib.hid (deleteF_int 17 (enters_f9 Tryz.func17 (by decide) rfl) (.pointer (some ⟨G, 0, none⟩)) (fun x => x == m) (G + 1) v5 _ w5 ho5 hs5 (by rw [intsN_len]; omega) HF.out)
  have HB5 : Hid (Below w.heap.size w w5) := by
    have hB2 := HB2.out.size
    refine (HB2.out.trans ?_)
    exact (((Below.refl w.heap.size W2).alloc hB2 _).alloc (by simp; omega) _).trans (hb5.mono (by omega))
  have hlf : ((intsN t.sets).filter fun x => !(x == m)).length ≤ 1000 := Nat.le_trans (List.length_filter_le _ _) (by rw [intsN_len]; omega)
  have HGw : Hid (w.heap.size ≤ G + 1) := by have := HB2.out.size; rw [Hid]; omega
  clear ho5 hb5 hcX hz hc5 HF HT2 HST hs60
  rw [← hG]
  clear hG
  go_wp2_with fail
  refine HDF.out.mono ?_
  rintro e w6 ⟨v6, rfl, ho6, hb6⟩
  have HSO := Lib.hid (sort_own (G + 1) v6 _ w6 ho6 hlf)
  have HB6 := Lib.hid (HB5.out.trans (hb6.mono HGw.out))
  clear ho6 hb6 HDF HB5 hlf
  go_wp2_with fail
  refine HSO.out.mono ?_
  rintro e w7 ⟨rfl, ho7, hb7⟩
  rw [HSA.out] at ho7
  go_wp2_with fail
  go_ret2
  exact ⟨_, rfl, own_less ho7 HGw.out, HB6.out.trans (hb7.mono HGw.out)⟩
end Go.Proofs.YthpomflpnmddoaaGreatDoor
