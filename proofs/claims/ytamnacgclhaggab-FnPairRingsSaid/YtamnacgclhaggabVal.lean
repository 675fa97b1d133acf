/- slices.Values of a row of partings, as an iterator: its contract. -/
import Derived.Test.YtamnacgclhaggabApp
import Derived.Test.YtamnacgclhaggabSch
namespace Go.Proofs.Ytamnacgclhaggab
open Go.ChangeShapes Go.WideShapes Go.ChangeAt Go.RowKit Go.Shelf

attribute [local go_sem] Oper.semAt_some

theorem par_take {α : Type} (f : α → List Int) (L : List α) (k : Nat) (h : k < L.length) : ∃ x : α, L.take (k + 1) = L.take k ++ [x] ∧ rowK (L.map f) k = f x ∧ x ∈ L := by
  refine ⟨L[k], by rw [List.take_succ_eq_append_getElem h], ?_, List.getElem_mem h⟩
  simp [rowK, List.getD, h]

set_option maxRecDepth 100000 in
set_option maxHeartbeats 4000000 in
theorem val_in {α : Type} (f : α → List Int) (hf : ∀ x, (f x).length = 4) (m lp vb B0 n₀ : Nat) (L : List α) (v : Value) (J Jx : List α → World → Prop)
    (W : World) (hJ : AbidesFrom W.heap.size J)
    (hY : ∀ pre x W1, J pre W1 → pre.length < 25 → YieldAt Fence.wide (m - 1) Try.prog lp #[.agg (ints (f x)).toArray] W1 fun e W' =>
      (e = .returned (.bool true) ∧ J (pre ++ [x]) W' ∧ Below n₀ W1 W') ∨ (e = .returned (.bool false) ∧ Jx (pre ++ [x]) W'))
    (hn₀ : n₀ ≤ W.heap.size) (hvb : vb < n₀) (hP : W.cell? ⟨vb, 0, none⟩ = some v) (hrow : RowN W B0 59 4 v (L.map f)) (hrl : ∀ i, v.ownBlock = some i → i < n₀) (hlen : L.length ≤ 20) (h0 : J [] W) :
    CallsIn Fence.wide m Try.prog 133 #[.func (.yield lp) #[] #[], .pointer (some ⟨vb, 0, none⟩)] W fun e W' => (∃ v, e = .returned v) ∧
      ((∃ ys : List α, ys = L ∧ J ys W') ∨ (∃ pre, pre <+: L ∧ Jx pre W')) := by
  obtain ⟨A, c, rfl⟩ := hrow.slice
  rw [List.length_map] at hP hrow hrl
  have HJ := Lib.hid hJ
  have HY := Lib.hid hY
  obtain ⟨N, hN⟩ : ∃ N, N = L.length := ⟨_, rfl⟩
  have HN := Lib.hid hN
  rw [← hN] at hrow hrl hP hlen
  have HF := Lib.hid (fun V (hb : Below n₀ W V) => (⟨(hb.cell (p := ⟨vb, 0, none⟩) hvb).trans hP, hrow.same (fun k hk => hb.block k (hrl k hk))⟩ : V.cell? ⟨vb, 0, none⟩ = some (.slice A N c) ∧ RowN V B0 59 4 (.slice A N c) (L.map f)))
  clear hY hJ hrow hP hN hrl
  refine callsIn_of_wp Try.func133 rfl trivial ?_ rfl
  refine wpIn_wide.2 ?_
  simp only [Try.ntmps133, List.size_toArray, List.length_cons, List.length_nil, Nat.reduceAdd, Nat.reduceSub, Array.replicate_succ, Array.replicate_zero, List.push_toArray, List.append_toArray, List.nil_append, List.cons_append]
  obtain ⟨f0, _⟩ := HF.out W (Below.refl _ _)
  go_wp2
  go_loopw [7] (fun i wr => ∃ k : Nat, k ≤ N ∧ i = .int .i64 k ∧ Hid (J (L.take k) wr) ∧ Below n₀ W wr) (fun i _ => N - (intOf i).toNat)
  case atStart => exact ⟨0, Nat.zero_le _, rfl, by simpa [Hid] using h0, Below.refl _ _⟩
  case round =>
    obtain ⟨k, hk, rfl, hJs, hbl⟩ := hrel
    clear f0 h0
    by_cases hlt : k < N
    · have hkl : k < L.length := by rw [← HN.out]; exact hlt
      obtain ⟨_, hrd⟩ := HF.out wr hbl
      obtain ⟨x, hx1, hx2, hx3⟩ := par_take f L k hkl
      have HT := Lib.hid hx1
      obtain ⟨g, c', e0, _, hgs, hmc, _, _, _⟩ := hrd.elem (show k < (L.map f).length by rw [List.length_map]; exact hkl)
      rw [List.length_map, ← HN.out] at e0
      injection e0 with e1 _ e3
      subst e3
      subst e1
      have HRD := Lib.hid hrd
      have HKL := Lib.hid (show k < (L.map f).length by rw [List.length_map]; exact hkl)
      have HXX := Lib.hid hx2
      have HBL := Lib.hid hbl
      have HXL := Lib.hid (hf x)
      have HNT := Lib.hid (Blk.new (t := 59) wr [0, 0, 0, 0])
      have hnw : n₀ ≤ wr.heap.size := Nat.le_trans hn₀ hbl.size
      have hpl : (L.take k).length < 25 := by rw [List.length_take]; omega
      clear hrd hx1 hx2 hx3 hbl hkl hmc hgs
      go_upto_region 3 with (first
        | (refine load_elem rfl _ 59 rfl _ rfl Try.underlying59 g N c B0 k 4 (L.map f) HRD HKL.out readParting_size rfl ?_; rw [HXX.out])
        | (refine store_blk rfl 59 4 readParting_size _ _ rfl wr.heap.size [0, 0, 0, 0] (f x) rfl HXL.out rfl rfl HNT ?_; intro w6 HB6 hg6 hs6; have h6 : Hid (Below wr.heap.size wr w6) := Lib.hid (((Below.refl _ _).alloc (Nat.le_refl _) _).grown hg6 (by simp) (by simp)); clear hs6 hg6))
      have hb6 : Below n₀ W w6 := HBL.out.trans (h6.out.mono hnw)
      have hj6 : J (L.take k) w6 := abides_below HJ.out hJs.out h6.out
      obtain ⟨fn, tmps, assign, body, hy, hR⟩ := HY.out (L.take k) x w6 hj6 hpl
      have HB6' := Lib.hid hb6
      clear hb6 hj6 h6
      refine (wpIn_wide (n := m)).1 ?_
      gi_wp2_with (refine in_load_blk rfl 59 4 readParting_size _ rfl Try.underlying59 _ rfl wr.heap.size (f x) HXL.out rfl HB6 ?_)
      refine ⟨fun h => (by cases h), hR.mono ?_⟩
      rintro e W3 (⟨rfl, hJ3, hk3⟩ | ⟨rfl, hJx3⟩)
      · clear hy
        gi_wp2
        go_wp2
        go_roundw
        case rel => exact ⟨k + 1, by omega, by go_num, by rw [HT.out]; exact hJ3, HB6'.out.trans hk3⟩
        case measure => simp [intOf]; omega
      · clear hy
        gi_wp2
        go_wp2
        refine bodyPost_ret (results_none rfl _ _ _) rfl ?_
        exact ⟨⟨_, rfl⟩, .inr ⟨_, ⟨L.drop (k + 1), by rw [← HT.out, List.take_append_drop]⟩, hJx3⟩⟩
    · obtain rfl : k = N := by omega
      go_wp2
      go_end0
      exact ⟨⟨_, rfl⟩, .inl ⟨L, rfl, by have := hJs.out; rwa [HN.out, List.take_length] at this⟩⟩

theorem val_stops {α : Type} (f : α → List Int) (hf : ∀ x, (f x).length = 4) (m vb B0 : Nat) (L : List α) (v : Value) (w : World) (hvb : vb < w.heap.size) (hP : w.cell? ⟨vb, 0, none⟩ = some v) (hrow : RowN w B0 59 4 v (L.map f)) (hlen : L.length ≤ 20) :
    SeqStopsK Fence.wide m Try.prog 133 #[.pointer (some ⟨vb, 0, none⟩)] (fun x : α => #[.agg (ints (f x)).toArray]) (Below w.heap.size) (fun ys => ys = L) (fun pre => pre <+: L) 25 w := fun lp J Jx W hW hJ _ hY h0 =>
  val_in f hf m lp vb B0 w.heap.size L v J Jx W hJ hY hW.size hvb ((hW.cell (p := ⟨vb, 0, none⟩) hvb).trans hP) (hrow.below hW (fun i hi => (hrow.lt i hi).2)) (fun i hi => (hrow.lt i hi).2) hlen h0
end Go.Proofs.Ytamnacgclhaggab
