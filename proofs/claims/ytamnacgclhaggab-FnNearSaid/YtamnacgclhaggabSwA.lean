/- A point and the one behind it exchanged: the model, the program; SwapAt. -/
import Derived.Test.YtamnacgclhaggabPR
import Derived.Test.YtamnacgclhaggabFold
import Derived.Test.YtamnacgclhaggabWindM
import Derived.Deep.RegionHeld3
namespace Go.Proofs.Ytamnacgclhaggab
open Go.ChangeShapes Go.WideShapes Go.ChangeAt Go.RowKit

theorem trans_grown {w w1 w2 : World} {row : Option Nat} (h : w.grownBy w1 row) (k : w1.grownBy w2 row) : w.grownBy w2 row :=
  ⟨k.os.trans h.os, k.tape.trans h.tape, k.output.trans h.output, Nat.le_trans h.size k.size, fun i hi hr => (k.block i (Nat.lt_of_lt_of_le hi h.size) hr).trans (h.block i hi hr)⟩
/-- One cell of an own row is written. -/
theorem stored_own {W : World} {B g n cap : Nat} {m : List Int} (h : Own W B (.slice (some ⟨g, 0, none⟩) n cap) m) (hm : m.length = n) (k : Nat) (_ : k < n) (y : Int) :
    Own (W.setCell ⟨g, k, none⟩ (.int .i64 y)) B (.slice (some ⟨g, 0, none⟩) n cap) (m.set k y) ∧ W.grownBy (W.setCell ⟨g, k, none⟩ (.int .i64 y)) (some g) ∧ W.frozen? ⟨g, k, none⟩ = false ∧ W.cell? ⟨g, k, none⟩ = some (.int .i64 (m.getD k 0)) := by
  subst hm
  have hst := World.ownsRow.stored h k (.int .i64 y)
  rw [ints_set] at hst
  refine ⟨?_, hst.2, World.ownsRow.frozenAt h k, ?_⟩
  · unfold Own
    rw [List.length_set]
    exact hst.1
  · rw [World.ownsRow.cellAt h k (by omega), ints_get _ _ (by assumption)]

set_option maxHeartbeats 1000000 in
theorem l5At_any (A : Option Addr) (n c H : Nat) (l : List Int) (x : Int) (w : World) (h : Rd w H A n l) (hH : H ≤ w.heap.size) (ht : Tell l) (hm : x ∈ l) :
    Calls Try.prog 81 #[.slice A n c, .int .i64 x] w fun e w' => ∃ v, e = .returned v ∧ Own w' w.heap.size v (swapL l x) ∧ Below w.heap.size w w' := by
  have hL := h.len
  have h3 := ht.1
  have h7 := ht.2.1
  have hn3 : 3 ≤ n := by omega
  have HC := Lib.hid (cutS_any A n c H l x w h hH (by omega) (by omega) hm)
  have hz := (swp_tell (cutL_tell ht hm) (i := 0) (j := 1) (by simp; omega) (by simp; omega)).zero
  have HE := Lib.hid (swap_spec ht hm)
  have HK := fun A c H' W (hR : Rd W H' A n (swp (cutL l x) 0 1)) (hH' : H' ≤ W.heap.size) => cutS_any A n c H' _ 0 W hR hH' (by omega) (by omega) hz
  have HCL := Lib.hid (cutL_length l x)
  rw [hL] at HCL
  have HKK := Lib.hid HK
  clear HK hz h hH ht hm hL
  generalize cutL l x = C at *
  have HS : Hid (swp C 0 1 = (C.set 0 (C.getD 1 0)).set 1 (C.getD 0 0)) := rfl
  have hC3 : 3 ≤ C.length := by rw [HCL.out]; omega
  go_enter Try.func81, Try.ntmps81
  go_wp2_with fail
  refine HC.out.mono ?_
  rintro e w1 ⟨v, rfl, ho, hb⟩
  obtain ⟨g, cap, rfl, hg1, hg2, hnc, hcm, hcs⟩ := ownHead ho (by omega)
  have HB := Lib.hid hb
  obtain ⟨a1, a2, hf0, hc0⟩ := stored_own ho rfl 0 (by omega) (C.getD 1 0)
  have hc1 := hcs 1 (by omega)
  obtain ⟨b1, b2, hf1, hc2⟩ := stored_own a1 (by simp) 1 (by omega) (C.getD 0 0)
  obtain ⟨W2, hW2⟩ : ∃ W, W = (w1.setCell ⟨g, 0, none⟩ (.int .i64 (C.getD 1 0))).setCell ⟨g, 1, none⟩ (.int .i64 (C.getD 0 0)) := ⟨_, rfl⟩
  rw [← HS.out] at b1
  have HO := Lib.hid b1
  have HG := Lib.hid (trans_grown a2 b2)
  rw [HCL.out]
  rw [← hW2] at HO HG
  have HW := Lib.hid hW2
  clear hcs a1 a2 b1 b2 hb ho HC hW2 HS
  generalize C.getD 0 0 = c0 at *
  generalize C.getD 1 0 = c1 at *
  go_wp2_with fail
  rw [← HW.out]
  have hl := HCL.out
  refine (HKK.out (some ⟨g, 0, none⟩) cap W2.heap.size W2 (by have := (HO.out.rd).2; rwa [hl] at this) (Nat.le_refl _)).mono ?_
  rintro e w3 ⟨v, rfl, ho3, hb3⟩
  rw [HE.out] at ho3
  have hs := HG.out.size
  have hs1 := HB.out.size
  have HO3 := Lib.hid (own_less ho3 (Nat.le_trans hs1 hs))
  have HB3 := Lib.hid ((HB.out.grown HG.out hs1 (by intro k hk; have e : g = k := Option.some.inj hk; omega)).trans (hb3.mono (Nat.le_trans hs1 hs)))
  clear ho3 hb3
  go_wp2
  go_ret
  exact ⟨_, rfl, HO3.out, HB3.out⟩

theorem pad_swp (l : List Int) (i j : Nat) (hi : i < l.length) (hj : j < l.length) : ((padR l).set i ((padR l).getD j 0)).set j ((padR l).getD i 0) = padR (swp l i j) := by
  rw [padR_get l i hi, padR_get l j hj]
  unfold padR swp
  rw [List.set_append_left _ _ hi, List.set_append_left _ _ (by simpa using hj)]
  simp

attribute [local go_sem ↓] ldR_fold stR_fold in
set_option maxRecDepth 10000 in
set_option maxHeartbeats 1000000 in
theorem swapped_any (l : List Int) (x : Int) (w : World) (h : Tell l) (hx : x ∈ l) :
    Calls Try.prog 79 #[agp l, .int .i64 x] w fun e w' => e = .returned (agp (swapL l x)) ∧ Below w.heap.size w w' := by
  have hl := h.2.1
  have h3 := h.1
  have h1 : 1 ≤ l.length := by omega
  have hs := List.idxOf_lt_length_of_mem hx
  have ht : (l.idxOf x + 1) % l.length < l.length := Nat.mod_lt _ (by omega)
  have hy := getD_mem l _ ht
  have hyi : l.idxOf (l.getD ((l.idxOf x + 1) % l.length) 0) = (l.idxOf x + 1) % l.length := by
    have e : l[(l.idxOf x + 1) % l.length] = l.getD ((l.idxOf x + 1) % l.length) 0 := by simp [List.getD, ht]
    rw [← e, h.2.2.2.idxOf_getElem]
  have HA := Lib.hid (fun V => place_any l x V hl hx)
  have HN := Lib.hid (fun V => next_any l x V h1 hl h.pos hx)
  have HP := Lib.hid (fun V => place_any l _ V hl hy)
  rw [hyi] at HP
  have hsw := swp_tell h hs ht
  have HC := Lib.hid (fun V => cut_any (swp l (l.idxOf x) ((l.idxOf x + 1) % l.length)) 0 V (by simp; omega) (by simp; omega) hsw.pos hsw.zero)
  have HPS := Lib.hid (pad_swp l _ _ hs ht)
  have h7 := padR_length l hl
  have h7' : (padR (swapL l x)).length = 7 := padR_length _ (by simp; omega)
  have h7'' := padR_length (swp l (l.idxOf x) ((l.idxOf x + 1) % l.length)) (by simp; omega)
  rw [show cutL (swp l (l.idxOf x) ((l.idxOf x + 1) % l.length)) 0 = swapL l x from rfl] at HC
  unfold agp at HA HN HP HC ⊢
  clear h hx hy hyi hsw h3 h1
  generalize padR (swapL l x) = R at *
  generalize padR (swp l (l.idxOf x) ((l.idxOf x + 1) % l.length)) = Q at *
  generalize l.getD ((l.idxOf x + 1) % l.length) 0 = y at *
  generalize (l.idxOf x + 1) % l.length = t at *
  generalize l.idxOf x = s at *
  generalize padR l = P at *
  have hs7 : s < 7 := by omega
  have ht7 : t < 7 := by omega
  clear hs ht hl
  obtain ⟨a0, a1, a2, a3, a4, a5, a6, rfl⟩ := seven h7
  obtain ⟨B, hB⟩ : ∃ B, B = w.heap.size := ⟨_, rfl⟩
  obtain ⟨S, hS⟩ : ∃ S : World → Prop, S = fun V => Arr V B [a0, a1, a2, a3, a4, a5, a6] ∧ Arr V (B + 1) zero7 ∧ Below B w V := ⟨_, rfl⟩
  have hSb : ∀ V V', S V → Below V.heap.size V V' → S V' := fun V V' hv hb => by
    rw [hS] at hv ⊢
    obtain ⟨v1, v2, v3⟩ := hv
    exact ⟨v1.below hb v1.lt, v2.below hb v2.lt, v3.trans (hb.mono (by have := v1.lt; omega))⟩
  have hSl : ∀ V, S V → (ldR ⟨B, 0, none⟩).run Try.prog V = .ok (.agg (ints [a0, a1, a2, a3, a4, a5, a6]).toArray) V := fun V hv => by
    rw [hS] at hv
    exact ldR_run hv.1 rfl
  have hS0 : S (((w.alloc (.cells (ints [a0, a1, a2, a3, a4, a5, a6]).toArray 50)).alloc (.cells (ints zero7).toArray 50)).drew) := by
    rw [hS]
    have k1 : Arr (w.alloc (.cells (ints [a0, a1, a2, a3, a4, a5, a6]).toArray 50)) B [a0, a1, a2, a3, a4, a5, a6] := by rw [hB]; exact heap_alloc_new w _
    have k2 := heap_alloc_new (w.alloc (.cells (ints [a0, a1, a2, a3, a4, a5, a6]).toArray 50)) (.cells (ints zero7).toArray 50)
    have e : (w.alloc (.cells (ints [a0, a1, a2, a3, a4, a5, a6]).toArray 50)).heap.size = B + 1 := by simp [hB]
    rw [e] at k2
    refine ⟨(k1.alloc _).drew, Arr.drew k2, ?_⟩
    rw [hB]
    exact (((Below.refl _ w).alloc (Nat.le_refl _) _).alloc (by simp) _).drew
  have HA : Hid (∀ V, S V → Calls Try.prog 122 #[.agg (ints [a0, a1, a2, a3, a4, a5, a6]).toArray, .int .i64 x] V fun e w' => e = .returned (.int .i64 s) ∧ S w') := fun V hv => (HA.out V).mono fun e w' hh => ⟨hh.1, hSb _ _ hv (by rw [hh.2]; exact (Below.refl _ V).alloc (Nat.le_refl _) _)⟩
  have HP : Hid (∀ V, S V → Calls Try.prog 122 #[.agg (ints [a0, a1, a2, a3, a4, a5, a6]).toArray, .int .i64 y] V fun e w' => e = .returned (.int .i64 t) ∧ S w') := fun V hv => (HP.out V).mono fun e w' hh => ⟨hh.1, hSb _ _ hv (by rw [hh.2]; exact (Below.refl _ V).alloc (Nat.le_refl _) _)⟩
  have HN : Hid (∀ V, S V → Calls Try.prog 82 #[.agg (ints [a0, a1, a2, a3, a4, a5, a6]).toArray, .int .i64 x] V fun e w' => e = .returned (.int .i64 y) ∧ S w') := fun V hv => (HN.out V).mono fun e w' hh => ⟨hh.1, hSb _ _ hv hh.2⟩
  have HS := Lib.hid hS
  have HSL := Lib.hid hSl
  have l0 := hSl _ hS0
  have HBB := Lib.hid hB
  simp only [ints, zero7, List.map_cons, List.map_nil] at HA HP HN HSL l0 hS0 ⊢
  clear hS hSb hSl
  rw [hB] at l0
  rw [hB] at HSL
  clear hB
  go_enter Try.func79, Try.ntmps79
  go_wp2_with fail
  clear l0
  go_region_held3 (fun V => (ldR ⟨w.heap.size, 0, none⟩).run Try.prog V = .ok (.agg #[.int .i64 a0, .int .i64 a1, .int .i64 a2, .int .i64 a3, .int .i64 a4, .int .i64 a5, .int .i64 a6]) V)
    (exact HSL.out _ (by with_reducible assumption))
    (first
      | (go_at_call_of 122 (Value.int IntKind.i64 y); refine (HP.out _ (by with_reducible assumption)).mono ?_; rintro e w' ⟨rfl, hS'⟩)
      | (go_at_call_of 122 (Value.int IntKind.i64 x); refine (HA.out _ (by with_reducible assumption)).mono ?_; rintro e w' ⟨rfl, hS'⟩)
      | (go_at_call 82; refine (HN.out _ (by with_reducible assumption)).mono ?_; rintro e w' ⟨rfl, hS'⟩))
  all_goals
    rw [HS.out] at hS'
    obtain ⟨k1, k2, k3⟩ := hS'
    clear HA HP HN HSL HS hS0
    rw [HBB.out] at k1 k2 k3
    have hcs := k1.cell (i := s) (by simp; omega)
    have hct := k1.cell (i := t) (by simp; omega)
    have hcs' := k1.drew.cell (i := s) (by simp; omega)
    have hct' := k1.drew.cell (i := t) (by simp; omega)
    have hfs := k1.frozen s
    have hfs' := k1.drew.frozen s
    generalize hu : ([a0, a1, a2, a3, a4, a5, a6] : List Int).getD s 0 = u at *
    generalize hv : ([a0, a1, a2, a3, a4, a5, a6] : List Int).getD t 0 = v at *
    have m1 := (k1.set_ s v).drew
    have hft := m1.frozen t
    have hct2 := m1.cell (i := t) (by simp; omega)
    generalize ([a0, a1, a2, a3, a4, a5, a6].set s v).getD t 0 = v' at *
    have m2 : Arr (((w'.setCell ⟨w.heap.size, s, none⟩ (.int .i64 v)).setCell ⟨w.heap.size, t, none⟩ (.int .i64 u)).drew) w.heap.size _ := m1.set_ t u
    rw [HPS.out] at m2
    have q7 : Q.length = 7 := h7''
    have n2 : Arr (((w'.setCell ⟨w.heap.size, s, none⟩ (.int .i64 v)).setCell ⟨w.heap.size, t, none⟩ (.int .i64 u)).drew) (w.heap.size + 1) zero7 := ((k2.far (p := ⟨w.heap.size, s, none⟩) (by simp) (.int .i64 v)).far (p := ⟨w.heap.size, t, none⟩) (by simp) (.int .i64 u)).drew
    have b2 : Below w.heap.size w (((w'.setCell ⟨w.heap.size, s, none⟩ (.int .i64 v)).setCell ⟨w.heap.size, t, none⟩ (.int .i64 u)).drew) := ((k3.setCell (p := ⟨w.heap.size, s, none⟩) (by simp) (.int .i64 v)).setCell (p := ⟨w.heap.size, t, none⟩) (by simp) (.int .i64 u)).drew
    go_wp2_with fail
    go_region
    generalize (((w'.setCell ⟨w.heap.size, s, none⟩ (.int .i64 v)).setCell ⟨w.heap.size, t, none⟩ (.int .i64 u)).drew) = W3 at *
    clear hcs hct hcs' hct' hfs hfs' hft hct2 k1 k2 k3 m1 hu hv
    obtain ⟨q0, q1, q2, q3, q4, q5, q6, rfl⟩ := seven q7
    have l3 := ldR_run m2 rfl
    have HN2 := Lib.hid n2
    have HB2 := Lib.hid b2
    simp only [ints, List.map_cons, List.map_nil] at l3 HC
    clear m2 n2 b2
    go_wp2_with fail
    refine (HC.out _).mono ?_
    rintro e w4 ⟨rfl, hb4⟩
    obtain ⟨w5, r5, hx5, hg5, hs5⟩ := stR_run (HN2.out.below hb4 HN2.out.lt) rfl h7'
    have HX5 := Lib.hid hx5
    have HB5 := Lib.hid ((HB2.out.trans (hb4.mono (by have := HN2.out.lt; omega))).grown hg5 (by have := HN2.out.lt; have := hb4.size; omega) (by intro k hk; have e : w.heap.size + 1 = k := Option.some.inj hk; omega))
    clear hb4 hx5 hg5 hs5 l3
    obtain ⟨r0, r1, r2, r3, r4, r5', r6, rfl⟩ := seven h7'
    have l5 := ldR_run HX5.out rfl
    simp only [ints, List.map_cons, List.map_nil] at l5 r5
    go_wp2
    exact ret_ring rfl (w.heap.size + 1) _ rfl rfl HX5 rfl ⟨rfl, HB5.out⟩

end Go.Proofs.Ytamnacgclhaggab
