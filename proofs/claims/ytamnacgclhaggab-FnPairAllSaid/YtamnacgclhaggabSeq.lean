/- The program's iterator over a ring's partings: its contract. -/
import Derived.Test.YtamnacgclhaggabPrs
import Derived.RangeFuncNested
import Derived.RangeFuncBound
import Derived.RangeFuncCalls
import Derived.RangeFuncLeaves
import Derived.Shelf.Abstract
import Derived.Shelf.RegionOpen
import Derived.Deep.Cut
import Derived.OwnWalkIn
import Derived.TacticsInMore
import Derived.LoopNIn
import Derived.LoopIn
namespace Go.Proofs.Ytamnacgclhaggab
open Go.ChangeShapes Go.WideShapes Go.ChangeAt Go.RowKit Go.Shelf

attribute [local go_sem] Oper.semAt_some

abbrev Par4 := { p : List Int // p.length = 4 }

/-- What a round keeps: all that lay below n₀ but for the numbers from x0 to x1, and every variable that is a pair. -/
def KpX (x0 x1 n₀ : Nat) (W W' : World) : Prop := W.heap.size ≤ W'.heap.size ∧ (∀ k, k < n₀ → k < x0 ∨ x1 ≤ k → W'.heap[k]? = W.heap[k]?) ∧ ∀ (j : Nat) (P : Array Value), W.heap[j]? = some (.cells P 57 (0, 0)) → W'.heap[j]? = W.heap[j]?
section
variable {x0 x1 n₀ : Nat} {A B C : World}
theorem KpX.refl (W : World) : KpX x0 x1 n₀ W W := ⟨Nat.le_refl _, fun _ _ _ => rfl, fun _ _ _ => rfl⟩
theorem kpX_t (h : KpX x0 x1 n₀ A B) (k : KpX x0 x1 n₀ B C) : KpX x0 x1 n₀ A C :=
  ⟨Nat.le_trans h.1 k.1, fun j hj hx => (k.2.1 j hj hx).trans (h.2.1 j hj hx), fun j P e => by
    have h1 := h.2.2 j P e
    rw [← h1]
    exact k.2.2 j P (h1.trans e)⟩
theorem KpX.step (h : KpX x0 x1 n₀ A B) (hb : Below B.heap.size B C) (hn : n₀ ≤ B.heap.size) : KpX x0 x1 n₀ A C :=
  kpX_t h ⟨hb.size, fun k hk _ => hb.block k (by omega), fun j P e => hb.block j (Array.getElem?_eq_some_iff.1 e).1⟩
theorem kpX_b {w : World} (hn : n₀ ≤ w.heap.size) (W : World) (l : Nat) (o o' : Obj) (hl : w.heap.size ≤ l) (h : W.heap[l]? = some o) (hc : o.isCells = false) (_ : o.isWalk = false) : KpX x0 x1 n₀ W (W.putObj l o') :=
  ⟨by simp, fun k hk _ => World.putObj_heap_other (by omega), fun j P e => World.putObj_heap_other (by
    intro ej
    subst ej
    rw [h] at e
    cases e
    simp [Obj.isCells] at hc)⟩
theorem KpX.blk (h : KpX x0 x1 n₀ A B) {g : Nat} {P : List Int} (hb : Blk 57 A g P) : Blk 57 B g P := (h.2.2 g _ hb).trans hb
end
theorem below_none {W W' : World} (h : Below W.heap.size W W') : W.grownBy W' none := ⟨h.os, h.tape, h.output, h.size, fun k hk _ => h.block k hk⟩
theorem abides_below {β : Type} {B : Nat} {J : β → World → Prop} (hJ : AbidesFrom B J) {s : β} {W W' : World} (h : J s W) (hb : Below W.heap.size W W') : J s W' := hJ s W W' none h (below_none hb) (fun r e => by cases e)

theorem take_flat_succ {α : Type} (L : List (List Int)) (f : List Int → List α) (k : Nat) (h : k < L.length) : (L.take (k + 1)).flatMap f = (L.take k).flatMap f ++ f (rowK L k) := by
  rw [List.take_succ_eq_append_getElem h, List.flatMap_append]
  simp [rowK, List.getD, h]

theorem ik_len (l e o : List Int) : (ik l e o).length ≤ 1 := by unfold ik; split <;> simp
theorem pairsL_len (n : Nat) (hn : n ≤ 7) : (pairsL n).length ≤ 49 := pw_len n n hn hn
theorem pairsL_two {n : Nat} {e : List Int} (h : e ∈ pairsL n) : Two (n : Int) e := by
  obtain ⟨a, b, rfl, h1, h2⟩ := pairsL_mem h
  exact (twoL2 _ _ _).2 ⟨by omega, by omega, by omega⟩

set_option maxRecDepth 100000 in
set_option maxHeartbeats 4000000 in
theorem prt_in (m lp pb rb B0 x0 x1 n₀ : Nat) (l : List Int) (ht : Tell l) (v : Value) (J Jx : List Par4 → World → Prop)
    (W : World) (hJ : AbidesFrom W.heap.size J)
    (hY : ∀ pre x W1, J pre W1 → pre.length < 2500 → YieldAt Fence.wide (m - 1) Try.prog lp #[.agg (ints x.1).toArray] W1 fun e W' =>
      (e = .returned (.bool true) ∧ J (pre ++ [x]) W' ∧ KpX x0 x1 n₀ W1 W') ∨ (e = .returned (.bool false) ∧ Jx (pre ++ [x]) W'))
    (hn₀ : n₀ ≤ W.heap.size) (hpb : pb < n₀) (hrb : rb < n₀) (hpx : pb < x0 ∨ x1 ≤ pb) (hrx : rb < x0 ∨ x1 ≤ rb) (hP : W.cell? ⟨pb, 0, none⟩ = some v) (hrow : RowN W B0 57 2 v (pairsL l.length)) (hrl : ∀ i, v.ownBlock = some i → i < n₀ ∧ (i < x0 ∨ x1 ≤ i)) (harr : Arr W rb (padR l)) (h0 : J [] W) :
    CallsIn Fence.wide m Try.prog 104 #[.func (.yield lp) #[] #[], .pointer (some ⟨pb, 0, none⟩), .pointer (some ⟨rb, 0, none⟩)] W fun e W' => (∃ v, e = .returned v) ∧
      ((∃ ys : List Par4, ys.map (·.1) = allP l ∧ J ys W') ∨ (∃ pre, True ∧ Jx pre W')) := by
  obtain ⟨A, c, rfl⟩ := hrow.slice
  obtain ⟨a0, a1, a2, a3, a4, a5, a6, hPd⟩ := seven (padR_length l ht.2.1)
  have h7 := ht.2.1
  have HT := Lib.hid ht
  have hlen := pairsL_len l.length h7
  have HTW := Lib.hid (fun e (he : e ∈ pairsL l.length) => pairsL_two he)
  have HALL := Lib.hid (allP_eq l)
  obtain ⟨L, hL⟩ : ∃ L, L = pairsL l.length := ⟨_, rfl⟩
  rw [← hL] at hrow hlen HTW HALL hrl hP
  clear hL
  have HPA := Lib.hid (fun x y z u V (hx : x ∈ l) (hy : y ∈ l) (hz : z ∈ l) (hu : u ∈ l) => parts_any l x y z u V (by have := HT.out.1; omega) HT.out.2.1 HT.out.pos hx hy hz hu)
  unfold agp at HPA
  rw [hPd] at HPA harr
  have HJ := Lib.hid hJ
  have HY := Lib.hid hY
  obtain ⟨N, hN⟩ : ∃ N, N = L.length := ⟨_, rfl⟩
  have HN := Lib.hid hN
  rw [← hN] at hrow hrl hP hlen
  have HRL := Lib.hid hrl
  have HF := Lib.hid (fun V (hb : KpX x0 x1 n₀ W V) => (⟨(World.cell?_of_block (hb.2.1 pb hpb hpx)).trans hP, hrow.same (fun k hk => hb.2.1 k (hrl k hk).1 (hrl k hk).2), (hb.2.1 rb hrb hrx).trans harr⟩ : V.cell? ⟨pb, 0, none⟩ = some (.slice A N c) ∧ RowN V B0 57 2 (.slice A N c) L ∧ Arr V rb [a0, a1, a2, a3, a4, a5, a6]))
  clear hY hJ hrow harr hP hPd ht hN hrl
  refine callsIn_of_wp Try.func104 rfl trivial ?_ rfl
  refine wpIn_wide.2 ?_
  simp only [Try.ntmps104, List.size_toArray, List.length_cons, List.length_nil, Nat.reduceAdd, Nat.reduceSub, Array.replicate_succ, Array.replicate_zero, List.push_toArray, List.append_toArray, List.nil_append, List.cons_append]
  obtain ⟨f0, _, _⟩ := HF.out W (KpX.refl _)
  go_wp2
  go_loopw [11] (fun i wr => ∃ k : Nat, k ≤ N ∧ i = .int .i64 k ∧ Hid (∃ ys : List Par4, ys.map (·.1) = (L.take k).flatMap (fun e => L.flatMap fun o => ik l e o) ∧ J ys wr) ∧ KpX x0 x1 n₀ W wr) (fun i _ => N - (intOf i).toNat)
  case atStart => exact ⟨0, Nat.zero_le _, rfl, ⟨[], by simp, h0⟩, KpX.refl _⟩
  case round =>
    obtain ⟨i, hi, rfl, hJs, hbl⟩ := hrel
    clear f0 h0
    by_cases hlt : i < N
    · have hil : i < L.length := by rw [← HN.out]; exact hlt
      obtain ⟨_, hrd, _⟩ := HF.out wr hbl
      obtain ⟨g, c', e0, _, hgs, hmc, _, _, _⟩ := hrd.elem hil
      rw [← HN.out] at e0 hmc
      injection e0 with e1 _ e3
      subst e3
      subst e1
      have HRD := Lib.hid hrd
      have HIL := Lib.hid hil
      have ti := HTW.out _ (rowK_mem hil)
      obtain ⟨x, y, ei⟩ := of_two ti.1
      have HE := Lib.hid ei
      rw [ei] at ti
      have HTI := Lib.hid ti
      have HBL := Lib.hid hbl
      have HNT := Lib.hid (Blk.new (t := 57) wr [0, 0])
      have hnw : n₀ ≤ wr.heap.size := Nat.le_trans hn₀ hbl.1
      have HSUC := Lib.hid (take_flat_succ L (fun e => L.flatMap fun o => ik l e o) i hil)
      rw [HE.out] at HSUC
      clear hrd ti ei hil hbl
      go_upto_region 3 with (first
        | (refine load_elem rfl _ 57 rfl _ rfl Try.underlying57 g N c B0 i 2 L HRD HIL.out readPair_size rfl ?_; rw [HE.out])
        | (refine store_blk rfl 57 2 readPair_size _ _ rfl wr.heap.size [0, 0] [x, y] rfl rfl rfl rfl HNT ?_; intro w6 HB6 hg6 hs6; have h6 : Hid (Below wr.heap.size wr w6) := Lib.hid (((Below.refl _ _).alloc (Nat.le_refl _) _).grown hg6 (by simp) (by simp)); clear hs6 hg6))
      have hb6 : KpX x0 x1 n₀ W w6 := HBL.out.step h6.out hnw
      obtain ⟨f6, _, _⟩ := HF.out w6 hb6
      have HJ6 : Hid (∃ ys : List Par4, ys.map (·.1) = (L.take i).flatMap (fun e => L.flatMap fun o => ik l e o) ∧ J ys w6) := by
        obtain ⟨ys, h1, h2⟩ := hJs.out
        exact ⟨ys, h1, abides_below HJ.out h2 h6.out⟩
      generalize hbe : wr.heap.size = be at *
      clear hbe h6 HBL HRD HNT hJs
      go_wp2
      go_loopw [17] (fun j wr => ∃ k : Nat, k ≤ N ∧ j = .int .i64 k ∧ Hid (∃ ys : List Par4, ys.map (·.1) = (L.take i).flatMap (fun e => L.flatMap fun o => ik l e o) ++ (L.take k).flatMap (fun o => ik l [x, y] o) ∧ J ys wr) ∧ Hid (Blk 57 wr be [x, y]) ∧ KpX x0 x1 n₀ W wr) (fun j _ => N - (intOf j).toNat)
      case atStart => exact ⟨0, Nat.zero_le _, rfl, by simpa [Hid] using HJ6.out, HB6, hb6⟩
      case round =>
        obtain ⟨k, hk, rfl, hJs, hbe, hbl⟩ := hrel
        clear f6 HJ6 HB6 hb6
        by_cases hltk : k < N
        · have hkl : k < L.length := by rw [← HN.out]; exact hltk
          obtain ⟨_, hrd, _⟩ := HF.out wr hbl
          have HRD := Lib.hid hrd
          have HKL := Lib.hid hkl
          have tk := HTW.out _ (rowK_mem hkl)
          obtain ⟨z, u, ek⟩ := of_two tk.1
          have HEK := Lib.hid ek
          rw [ek] at tk
          have HBL := Lib.hid hbl
          have hbw := hbe.out.lt
          have HNT := Lib.hid (Blk.new (t := 57) wr [0, 0])
          have hnw : n₀ ≤ wr.heap.size := Nat.le_trans hn₀ hbl.1
          have HSUC2 := Lib.hid (take_flat_succ L (fun o => ik l [x, y] o) k hkl)
          rw [HEK.out] at HSUC2
          have hmem : ∀ v, (0 ≤ v ∧ v < (l.length : Int)) → v ∈ l := fun v hv => HT.out.has hv.1 hv.2
          have mx := hmem x (HTI.out.2.1 x (by simp))
          have my := hmem y (HTI.out.2.1 y (by simp))
          have mz := hmem z (tk.2.1 z (by simp))
          have mu := hmem u (tk.2.1 u (by simp))
          have HC := Lib.hid (fun V => HPA.out x y z u V mx my mz mu)
          have HMT := Lib.hid (fun V => meets_any x y z u V)
          have HIK : Hid (ik l [x, y] [z, u] = if decide (x < z) && (!meetB x y z u && partB l [x, y, z, u]) then [[x, y, z, u]] else []) := rfl
          clear hrd tk ek hkl hbl mx my mz mu hmem
          go_upto_region 7 with (first
            | (refine load_elem rfl _ 57 rfl _ rfl Try.underlying57 g N c B0 k 2 L HRD HKL.out readPair_size rfl ?_; rw [HEK.out])
            | (refine store_blk rfl 57 2 readPair_size _ _ rfl wr.heap.size [0, 0] [z, u] rfl rfl rfl rfl HNT ?_; intro w6 HB6 hg6 hs6; have h6 : Hid (Below wr.heap.size wr w6) := Lib.hid (((Below.refl _ _).alloc (Nat.le_refl _) _).grown hg6 (by simp) (by simp)); have hs6' : wr.heap.size < w6.heap.size := (by rw [hs6]; simp); have HP6 := Lib.hid (hbe.out.below h6.out hbw); have HNP := Lib.hid (Blk.new (t := 59) w6 [0, 0, 0, 0]); clear hs6 hg6)
            | (refine load_blk rfl 57 2 readPair_size _ rfl Try.underlying57 _ rfl be [x, y] rfl rfl HP6 ?_)
            | (refine load_blk rfl 57 2 readPair_size _ rfl Try.underlying57 _ rfl wr.heap.size [z, u] rfl rfl HB6 ?_)
            | (refine store_blk rfl 59 4 readParting_size _ _ rfl w6.heap.size [0, 0, 0, 0] [x, y, z, u] rfl rfl rfl rfl HNP ?_; intro w8 HB8 hg8 hs8; have h8 : Hid (Below w6.heap.size w6 w8) := Lib.hid (((Below.refl _ _).alloc (Nat.le_refl _) _).grown hg8 (by simp) (by simp)); have hs8' : w6.heap.size < w8.heap.size := (by rw [hs8]; simp); clear hs8 hg8))
          have h68 : Hid (Below wr.heap.size wr w8) := Lib.hid (h6.out.trans (h8.out.mono (by omega)))
          have hb8 : KpX x0 x1 n₀ W w8 := HBL.out.step h68.out hnw
          have hs68 := h68.out.size
          have HK := Lib.hid (fun V (hV : Below w8.heap.size w8 V) => (⟨cells7 (HF.out V (hb8.step hV (by omega))).2.2, (HB8.out.below hV hs8').cell (i := 0) (by simp), (HB8.out.below hV hs8').cell (i := 1) (by simp), (HB8.out.below hV hs8').cell (i := 2) (by simp), (HB8.out.below hV hs8').cell (i := 3) (by simp)⟩ : _ ∧ _ ∧ _ ∧ _ ∧ _))
          have HQ := Lib.hid (fun V (hV : Below w8.heap.size w8 V) => (⟨((hbe.out.below h68.out hbw).below hV (by omega)).cell (i := 0) (by simp), ((hbe.out.below h68.out hbw).below hV (by omega)).cell (i := 1) (by simp), ((HB6.out.below h8.out hs6').below hV (by omega)).cell (i := 0) (by simp), ((HB6.out.below h8.out hs6').below hV (by omega)).cell (i := 1) (by simp)⟩ : _ ∧ _ ∧ _ ∧ _))
          obtain ⟨p0, p1, q0, q1⟩ := HQ.out w8 (Below.refl _ _)
          simp only [List.getD_cons_zero, List.getD_cons_succ] at p0 p1 q0 q1
          obtain ⟨ys, hys, hjy⟩ := hJs.out
          have HYS := Lib.hid hys
          have HJV := Lib.hid (fun V (hV : Below w8.heap.size w8 V) => abides_below HJ.out hjy (h68.out.trans (hV.mono hs68)))
          have HBE := Lib.hid (fun V (hV : Below w8.heap.size w8 V) => (hbe.out.below h68.out hbw).below hV (by omega))
          have HBV := Lib.hid (fun V (hV : Below w8.heap.size w8 V) => hb8.step hV (by omega))
          generalize hq : wr.heap.size = bq at *
          generalize hd : w6.heap.size = bd at *
          clear hq hd hys hjy hJs hbe HB6 HB8 HNP HNT HP6 h6 h8 h68 HBL HRD hb8
          by_cases hxz : x < z
          rotate_left
          · have d0 : decide (x < z) = false := by simpa using hxz
            rw [d0] at HIK
            clear hxz HK HQ
            go_wp2
            go_roundw
            case rel => exact ⟨k + 1, by omega, by go_num, ⟨ys, by rw [HYS.out, HSUC2.out, HIK.out]; simp, HJV.out _ (Below.refl _ _)⟩, Lib.hid (HBE.out _ (Below.refl _ _)), HBV.out _ (Below.refl _ _)⟩
            case measure => simp [intOf]; omega
          have d0 : decide (x < z) = true := by simpa using hxz
          rw [d0] at HIK
          cases hmt : meetB x y z u with
          | true =>
            rw [hmt] at HMT HIK
            clear hxz HK HQ
            go_wp2_with (go_at_call 105; refine (HMT.out _).mono ?_; rintro e w9 ⟨rfl, hb9⟩)
            go_roundw
            case rel => exact ⟨k + 1, by omega, by go_num, ⟨ys, by rw [HYS.out, HSUC2.out, HIK.out]; simp, HJV.out _ hb9⟩, Lib.hid (HBE.out _ hb9), HBV.out _ hb9⟩
            case measure => simp [intOf]; omega
          | false =>
            rw [hmt] at HMT HIK
            cases hpt : partB l [x, y, z, u] with
            | false =>
              rw [hpt] at HC HIK
              clear hxz HQ
              go_wp2_with (first
                | (go_at_call 105; refine (HMT.out _).mono ?_; rintro e w9 ⟨rfl, hb9⟩; obtain ⟨⟨r0, r1, r2, r3, r4, r5, r6⟩, t0, t1, t2, t3⟩ := HK.out w9 hb9; simp only [List.getD_cons_zero, List.getD_cons_succ] at t0 t1 t2 t3)
                | (go_at_call 68; refine (HC.out _).mono ?_; rintro e w10 ⟨rfl, hb10⟩))
              have hb := hb9.trans (hb10.mono hb9.size)
              go_roundw
              case rel => exact ⟨k + 1, by omega, by go_num, ⟨ys, by rw [HYS.out, HSUC2.out, HIK.out]; simp, HJV.out _ hb⟩, Lib.hid (HBE.out _ hb), HBV.out _ hb⟩
              case measure => simp [intOf]; omega
            | true =>
              rw [hpt] at HC HIK
              clear hxz HQ
              have hyl : ys.length < 2500 := by
                have h1 := congrArg List.length HYS.out
                rw [List.length_map, List.length_append] at h1
                have h2 := flatMap_le (L.take i) (fun e => L.flatMap fun o => ik l e o) 49 (fun e _ => by
                  have := flatMap_le L (fun o => ik l e o) 1 (fun o _ => ik_len l e o)
                  have := HN.out
                  omega)
                have h3 := flatMap_le (L.take k) (fun o => ik l [x, y] o) 1 (fun o _ => ik_len l _ o)
                rw [List.length_take] at h2 h3
                omega
              refine (wpIn_wide (n := m)).1 ?_
              gi_wp2_with (first
                | (refine ⟨trivial, fun h => (by cases h), ?_⟩; gi_at_call 105; refine (callsIn_wide.2 (HMT.out _)).mono ?_; rintro e w9 ⟨rfl, hb9⟩; obtain ⟨⟨r0, r1, r2, r3, r4, r5, r6⟩, t0, t1, t2, t3⟩ := HK.out w9 hb9; simp only [List.getD_cons_zero, List.getD_cons_succ] at t0 t1 t2 t3)
                | (refine ⟨trivial, fun h => (by cases h), ?_⟩; gi_at_call 68; refine (callsIn_wide.2 (HC.out _)).mono ?_; rintro e w10 ⟨rfl, hb10⟩; have hb := hb9.trans (hb10.mono hb9.size); obtain ⟨_, t0, t1, t2, t3⟩ := HK.out w10 hb; simp only [List.getD_cons_zero, List.getD_cons_succ] at t0 t1 t2 t3; obtain ⟨fn, tmps, assign, body, hy, hR⟩ := HY.out ys ⟨[x, y, z, u], rfl⟩ w10 (HJV.out w10 hb) hyl; simp only [ints, List.map_cons, List.map_nil] at hy))
              refine ⟨fun h => (by cases h), hR.mono ?_⟩
              rintro e W3 (⟨rfl, hJ3, hk3⟩ | ⟨rfl, hJx3⟩)
              · have hbe3 := hk3.blk (HBE.out w10 hb)
                have hbv3 := kpX_t (HBV.out w10 hb) hk3
                clear r0 r1 r2 r3 r4 r5 r6 t0 t1 t2 t3 hy p0 p1 q0 q1
                gi_wp2
                go_wp2
                go_roundw
                case rel => exact ⟨k + 1, by omega, by go_num, ⟨ys ++ [⟨[x, y, z, u], rfl⟩], by rw [List.map_append, HYS.out, HSUC2.out, HIK.out]; simp, hJ3⟩, Lib.hid hbe3, hbv3⟩
                case measure => simp [intOf]; omega
              · clear r0 r1 r2 r3 r4 r5 r6 t0 t1 t2 t3 hy p0 p1 q0 q1
                gi_wp2
                go_wp2
                refine bodyPost_ret (results_none rfl _ _ _) rfl ?_
                exact ⟨⟨_, rfl⟩, .inr ⟨_, trivial, hJx3⟩⟩
        · obtain rfl : k = N := by omega
          have HZ : Hid (∃ ys : List Par4, ys.map (·.1) = (L.take (i + 1)).flatMap (fun e => L.flatMap fun o => ik l e o) ∧ J ys wr) := by
            obtain ⟨ys, h1, h2⟩ := hJs.out
            exact ⟨ys, by rw [h1, HSUC.out, HN.out, List.take_length], h2⟩
          clear hJs
          go_wp2
          go_roundw
          case rel => exact ⟨i + 1, by omega, by go_num, HZ, hbl⟩
          case measure => simp [intOf]; omega
    · obtain rfl : i = N := by omega
      go_wp2
      go_end0
      obtain ⟨ys, hys, hj⟩ := hJs.out
      rw [HN.out, List.take_length] at hys
      exact ⟨⟨_, rfl⟩, .inl ⟨ys, by rw [hys, HALL.out], hj⟩⟩

theorem prt_stops (m pb rb B0 x0 x1 n₀ : Nat) (l : List Int) (ht : Tell l) (v : Value) (w : World)
    (hn₀ : n₀ ≤ w.heap.size) (hpb : pb < n₀) (hrb : rb < n₀) (hpx : pb < x0 ∨ x1 ≤ pb) (hrx : rb < x0 ∨ x1 ≤ rb) (hP : w.cell? ⟨pb, 0, none⟩ = some v) (hrow : RowN w B0 57 2 v (pairsL l.length)) (hrl : ∀ i, v.ownBlock = some i → i < n₀ ∧ (i < x0 ∨ x1 ≤ i)) (harr : Arr w rb (padR l)) :
    SeqStopsK Fence.wide m Try.prog 104 #[.pointer (some ⟨pb, 0, none⟩), .pointer (some ⟨rb, 0, none⟩)] (fun x : Par4 => #[.agg (ints x.1).toArray]) (KpX x0 x1 n₀) (fun ys => ys.map (·.1) = allP l) (fun _ => True) 2500 w := fun lp J Jx W hW hJ _ hY h0 =>
  prt_in m lp pb rb B0 x0 x1 n₀ l ht v J Jx W hJ hY (Nat.le_trans hn₀ hW.size) hpb hrb hpx hrx ((hW.cell (p := ⟨pb, 0, none⟩) (by show pb < _; omega)).trans hP) (hrow.below hW (fun i hi => by have := (hrl i hi).1; omega)) hrl (harr.below hW (by omega)) h0

set_option maxHeartbeats 1000000 in
theorem partings_any (l : List Int) (w : World) (ht : Tell l) :
    Calls Try.prog 50 #[agp l] w fun e w' => ∃ pb v, e = .returned (.func (.func 104) #[] #[.pointer (some ⟨pb, 0, none⟩), .pointer (some ⟨w.heap.size, 0, none⟩)]) ∧ w.heap.size ≤ pb ∧ pb < w'.heap.size ∧ w'.cell? ⟨pb, 0, none⟩ = some v ∧ RowN w' w.heap.size 57 2 v (pairsL l.length) ∧ Arr w' w.heap.size (padR l) ∧ Below w.heap.size w w' := by
  have h7 := ht.2.1
  obtain ⟨a0, a1, a2, a3, a4, a5, a6, hPd⟩ := seven (padR_length l h7)
  have HS := Lib.hid (fun W => size_any l W h7 ht.pos)
  unfold agp at HS ⊢
  rw [hPd] at HS ⊢
  have HA0 : Hid (Arr (w.alloc (.cells (ints [a0, a1, a2, a3, a4, a5, a6]).toArray 50)) w.heap.size [a0, a1, a2, a3, a4, a5, a6]) := heap_alloc_new w _
  have hb0 : Below w.heap.size w (w.alloc (.cells (ints [a0, a1, a2, a3, a4, a5, a6]).toArray 50)) := (Below.refl _ _).alloc (Nat.le_refl _) _
  have hlt0 : w.heap.size < (w.alloc (.cells (ints [a0, a1, a2, a3, a4, a5, a6]).toArray 50)).heap.size := by simp
  simp only [ints, List.map_cons, List.map_nil] at HA0 hb0 hlt0 HS ⊢
  clear hPd ht
  go_enter Try.func50, Try.ntmps50
  go_wp2_with (go_at_call 103; refine (HS.out _).mono ?_; rintro e w' ⟨rfl, rfl⟩)
  generalize hW0 : w.alloc (.cells #[.int .i64 a0, .int .i64 a1, .int .i64 a2, .int .i64 a3, .int .i64 a4, .int .i64 a5, .int .i64 a6] 50) = W0 at *
  clear hW0
  have hb1 : Below W0.heap.size W0 (W0.alloc (.cells #[.int .i64 a0, .int .i64 a1, .int .i64 a2, .int .i64 a3, .int .i64 a4, .int .i64 a5, .int .i64 a6] 50)) := (Below.refl _ _).alloc (Nat.le_refl _) _
  have hs1 := hb1.size
  refine (allPairs_any l.length _ h7).mono ?_
  rintro e w2 ⟨v, rfl, hrow, hb2⟩
  have hb12 : Below W0.heap.size W0 w2 := hb1.trans (hb2.mono hs1)
  have hs2 := hb12.size
  obtain ⟨Av, cv, e⟩ := hrow.slice
  have hrow' : RowN w2 w.heap.size 57 2 v (pairsL l.length) := hrow.less (by omega)
  subst e
  have HV := Lib.hid (hrow'.alloc (.cells #[.slice Av (pairsL l.length).length cv] 99))
  have HA2 := Lib.hid ((HA0.out.below hb12 hlt0).alloc (.cells #[.slice Av (pairsL l.length).length cv] 99))
  have HBB := Lib.hid ((hb0.trans (hb12.mono (by omega))).alloc (by omega) (.cells #[.slice Av (pairsL l.length).length cv] 99))
  have HC : Hid ((w2.alloc (.cells #[.slice Av (pairsL l.length).length cv] 99)).cell? ⟨w2.heap.size, 0, none⟩ = some (.slice Av (pairsL l.length).length cv)) := by
    rw [Hid, cell_of_row _ _ _ _ _ (0, 0) (heap_alloc_new w2 _)]; rfl
  have HSZ : Hid (w2.heap.size < (w2.alloc (.cells #[.slice Av (pairsL l.length).length cv] 99)).heap.size) := by rw [Hid]; simp
  generalize (pairsL l.length).length = z at *
  clear hrow hrow' hb1 hb2 hb12 hb0 HA0 HS
  go_wp2
  go_ret
  exact ⟨w2.heap.size, .slice Av z cv, rfl, by omega, HSZ.out, HC.out, HV.out, HA2.out, HBB.out⟩
end Go.Proofs.Ytamnacgclhaggab
