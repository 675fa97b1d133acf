/- The numbers of the rings by one swap: the program's row. -/
import Derived.Test.YtamnacgclhaggabSwN
namespace Go.Proofs.Ytamnacgclhaggab
open Go.ChangeShapes Go.WideShapes Go.ChangeAt Go.RowKit

theorem Own.stay {w w' : World} {B : Nat} {v : Value} {l : List Int} (h : Own w B v l) (hb : Below w.heap.size w w') : Own w' B v l := by
  refine ⟨h.1, ?_⟩
  rcases h.2 with e | ⟨g, cap, cur, hv, hg, hh, r⟩
  · exact .inl e
  · exact .inr ⟨g, cap, cur, hv, hg, by rw [hb.block g (Array.getElem?_eq_some_iff.1 hh).1]; exact hh, r⟩

attribute [local go_sem ↓] ldR_fold stR_fold in
set_option maxRecDepth 10000 in
set_option maxHeartbeats 1000000 in
theorem swapNumbers_any (l : List Int) (w : World) (h : Tell l) :
    Calls Try.prog 84 #[agp l] w fun e w' => ∃ g, e = .returned (.slice (some ⟨g, 0, none⟩) l.length l.length) ∧ Own w' w.heap.size (.slice (some ⟨g, 0, none⟩) l.length l.length) (numsL l) ∧ Below w.heap.size w w' := by
  obtain ⟨i0, hi, hz0, hz1, hz2⟩ := info_parts int_info
  have h3 := h.1
  have h7 := h.2.1
  have HSZ := fun V => Lib.hid (size_any l V h7 h.pos)
  have HM : ∀ k : Nat, k < l.length → (k : Int) ∈ l := fun k hk => h.has (by omega) (by omega)
  have HSW := Lib.hid (fun (k : Nat) (hk : k < l.length) V => swapped_any l (k : Int) V h (HM k hk))
  have HNU := Lib.hid (fun (k : Nat) (hk : k < l.length) V => num_any (swapL l (k : Int)) V (by simp; omega) (by simp; omega) (swapL_ring h (HM k hk)).1.pos)
  have HGET := Lib.hid (fun (k : Nat) (hk : k < l.length) => numsL_get l k hk)
  have HLEN := Lib.hid (numsL_length l)
  have H77 := Lib.hid (fun (k : Nat) (_ : k < l.length) => padR_length (swapL l (k : Int)) (by simp; omega))
  simp only [swapL_length] at HNU
  have h70 := padR_length l h7
  unfold agp at HSZ HSW HNU ⊢
  clear HM h
  generalize padR l = P at *
  obtain ⟨a0, a1, a2, a3, a4, a5, a6, rfl⟩ := seven h70
  generalize numsL l = C at *
  generalize l.length = n at *
  obtain ⟨W, hW⟩ : ∃ W, W = w.alloc (.cells (ints [a0, a1, a2, a3, a4, a5, a6]).toArray 50) := ⟨_, rfl⟩
  obtain ⟨x1, x3, x4⟩ := box_world w _ _ rfl W hW
  have l0 := ldR_run x1 rfl
  have HX1 := Lib.hid x1
  have HX3 := Lib.hid x3
  have HX4 := Lib.hid x4
  simp only [ints, List.map_cons, List.map_nil] at HSZ HSW l0 hW ⊢
  have HSS := Lib.hid HSZ
  clear HSZ x1 x3 x4
  rw [hW] at l0
  go_enter Try.func84, Try.ntmps84
  go_wp2_with fail
  rw [← hW]
  clear l0 hW
  refine (HSS.out W).out.mono ?_
  rintro e W1 ⟨rfl, hw1⟩
  have hb1 : Below W.heap.size W W1 := by rw [hw1]; exact (Below.refl _ W).alloc (Nat.le_refl _) _
  clear hw1
  have HX1b := Lib.hid (HX1.out.below hb1 HX1.out.lt)
  have HX3b := Lib.hid (HX3.out.trans (hb1.mono HX3.out.size))
  have hs1 : w.heap.size + 1 ≤ W1.heap.size := by have := hb1.size; have := HX4.out; omega
  clear hb1 HX1 HX3 HX4
  go_wp2_with (at_make; refine wpList_make_full _ rfl _ _ 23 rfl W1.heap.size 3 i0 (.int .i64 0) 1 Try.underlying23 hi hz0 hz1 .i64 .i64 _ _ n rfl rfl rfl rfl (by rw [hz2]; omega) (by unfold maxLen; omega) (by simp) ?_)
  intro w2 hown hgrow
  have HO0 : Hid (Own w2 (w.heap.size + 1) (.slice (some ⟨W1.heap.size, 0, none⟩) n n) (half C n 0)) := by
    refine own_less (B := W1.heap.size) ?_ hs1
    rw [half_zero]
    unfold Own
    rw [List.length_replicate]
    have e : ints (List.replicate n 0) = (madeCells #[Value.int IntKind.i64 0] n).toList := by
      rw [toList_madeCells_one]
      simp [ints]
    rw [e]
    exact hown
  have HXA := Lib.hid ((hgrow.block _ HX1b.out.lt (by simp)).trans HX1b.out)
  have HXB : Hid (Below w.heap.size w w2) := HX3b.out.grown hgrow (by omega) (by simp)
  have HXA : Hid (Arr w2 w.heap.size [a0, a1, a2, a3, a4, a5, a6]) := HXA
  have hs2 := hgrow.size
  clear hown hgrow HX1b HX3b
  obtain ⟨B, hB⟩ : ∃ B, B = w.heap.size := ⟨_, rfl⟩
  have HBB := Lib.hid hB
  rw [← hB] at HXA HXB HO0 hs1 ⊢
  clear hB
  generalize W1.heap.size = G at *
  go_wp2
  go_loopw [10] (fun i wr => ∃ k : Nat, k ≤ n ∧ i = .int .i64 k ∧ Hid (Own wr (B + 1) (.slice (some ⟨G, 0, none⟩) n n) (half C n k)) ∧ Hid (Arr wr B [a0, a1, a2, a3, a4, a5, a6]) ∧ Hid (Below B w wr)) (fun i _ => n - (intOf i).toNat)
  case atStart => exact ⟨0, by omega, rfl, HO0, HXA, HXB⟩
  case round =>
    obtain ⟨k, hk, rfl, hown, hx1, hbl⟩ := hrel
    clear HO0 HXA HXB
    by_cases hlt : k < n
    · have l1 := ldR_run hx1.out rfl
      simp only [ints, List.map_cons, List.map_nil] at l1
      have HC1 := Lib.hid (HSW.out k hlt wr)
      have HC2 := Lib.hid (HNU.out k hlt)
      have hst := half_step C n k HLEN.out hlt
      rw [HGET.out k hlt] at hst
      have HST := Lib.hid hst
      have HHL := Lib.hid (half_length C n k HLEN.out hk)
      have h77 := H77.out k hlt
      clear hst
      generalize padR (swapL l (k : Int)) = Q at *
      generalize numP (swapL l (k : Int)) n = y at *
      obtain ⟨q0, q1, q2, q3, q4, q5, q6, rfl⟩ := seven h77
      simp only [ints, List.map_cons, List.map_nil] at HC1 HC2
      go_wp2_with fail
      refine HC1.out.mono ?_
      rintro e w3 ⟨rfl, hb3⟩
      have HO3 := Lib.hid (hown.out.stay hb3)
      have HX3 := Lib.hid (hx1.out.below hb3 hx1.out.lt)
      have HB3 := Lib.hid (hbl.out.trans (hb3.mono (by have := hx1.out.lt; omega)))
      clear l1 hb3 hown hx1 hbl
      go_wp2_with fail
      refine (HC2.out _).mono ?_
      rintro e w4 ⟨rfl, hb4⟩
      have HO4 := HO3.out.stay hb4
      have HX4 := Lib.hid (HX3.out.below hb4 HX3.out.lt)
      have HB4 := Lib.hid (HB3.out.trans (hb4.mono (by have := HX3.out.lt; omega)))
      have hgB := (HO4.lt _ rfl).1
      obtain ⟨s1, s2, s3, s4⟩ := stored_own HO4 HHL.out k hlt y
      rw [HST.out] at s1
      have HS1 := Lib.hid s1
      have HX5 := Lib.hid (HX4.out.grown s2 (by omega))
      have HB5 := Lib.hid (HB4.out.grown s2 (by have := HX4.out.lt; omega) (by intro i hi; have e : G = i := Option.some.inj hi; omega))
      clear s1 s2 hb4 HO4 HO3 HX3 HB3 HX4 HB4
      generalize (half C n k).getD k 0 = old at *
      go_wp2
      go_roundw
      case rel => exact ⟨k + 1, by omega, by go_num, HS1, HX5, HB5⟩
      case measure => simp [intOf]; omega
    · obtain rfl : k = n := by omega
      rw [half_full C k HLEN.out] at hown
      go_wp2
      go_ret
      exact ⟨G, rfl, own_less hown.out (by have := HBB.out; omega), by have h := hbl.out; rw [HBB.out] at h; exact h⟩
end Go.Proofs.Ytamnacgclhaggab
