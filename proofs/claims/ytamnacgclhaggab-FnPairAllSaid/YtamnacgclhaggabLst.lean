/- A parting's points as a list: slices.Grow, slices.Concat, the two list methods. -/
import Derived.Test.YtamnacgclhaggabPar
import Derived.Test.YtamnacgclhaggabPE
import Derived.Lib.AppendZeros
import Derived.Lib.SliceRun
import Derived.Lib.Walk
import Derived.Deep.RegionHeld3
namespace Go.Proofs.Ytamnacgclhaggab
open Go.ChangeShapes Go.WideShapes Go.ChangeAt Go.RowKit

set_option maxHeartbeats 1000000 in
theorem pairList_any (x y : Int) (w : World) :
    Calls Try.prog 107 #[.agg #[.int .i64 x, .int .i64 y]] w fun e w' => ∃ g, e = .returned (.slice (some ⟨g, 0, none⟩) 2 2) ∧ w.heap.size ≤ g ∧ g < w'.heap.size ∧ w'.cell? ⟨g, 0, none⟩ = some (.int .i64 x) ∧ w'.cell? ⟨g, 1, none⟩ = some (.int .i64 y) ∧ Below w.heap.size w w' := by
  go_enter Try.func107, Try.ntmps107
  go_wp2
  go_ret
  have hn : ∀ o : Obj, ((w.alloc o).alloc (.cells #[.int .i64 x, .int .i64 y] 3)).heap[w.heap.size + 1]? = some (.cells #[.int .i64 x, .int .i64 y] 3 (0, 0)) := fun o => by
    have := heap_alloc_new (w.alloc o) (.cells #[.int .i64 x, .int .i64 y] 3)
    rwa [show (w.alloc o).heap.size = w.heap.size + 1 by simp] at this
  refine ⟨w.heap.size + 1, by simp, by omega, by simp, ?_, ?_, ?_⟩
  · rw [cell_of_row _ _ _ _ _ (0, 0) (hn _)]; rfl
  · rw [cell_of_row _ _ _ _ _ (0, 0) (hn _)]; rfl
  · exact ((Below.refl _ _).alloc (Nat.le_refl _) _).alloc (by simp) _

set_option maxHeartbeats 1000000 in
theorem grow4_any (w : World) :
    Calls Try.prog 132 #[.slice none 0 0, .int .i64 4] w fun e w' => ∃ c, e = .returned (.slice (some ⟨w.heap.size, 0, none⟩) 0 c) ∧ w'.ownsRow w.heap.size 3 1 (.slice (some ⟨w.heap.size, 0, none⟩) 0 c) 0 [] ∧ Below w.heap.size w w' := by
  obtain ⟨i0, hi, hz0, hz1, hz2⟩ := info_parts int_info
  have happ := fun ty => Lib.run_append_nil_zeros (P := Try.prog) w 23 3 ty 3 i0 (.int .i64 0) .i64 .i64 Try.underlying23 Try.underlying3 hi hz0 4 (by omega) (by omega) (by omega) (by rw [hz2]; omega)
  have hcapge : 4 ≤ grownCap w 4 0 3 := grownCap_ge w _ 0 _
  have hcaple : grownCap w 4 0 3 ≤ maxLen := grownCap_le_maxLen w _ 0 _ (by unfold maxLen; omega)
  generalize hcap : grownCap w 4 0 3 = cap at *
  clear hcap
  generalize hZ : (Builtin.zeroCells (Value.int .i64 0).cells 4 ++ Builtin.zeroCells (Value.int .i64 0).cells (cap - 4)) = Z at *
  have hZs : Z.size = cap := by rw [← hZ]; simp [size_zeroCells, Value.cells]; omega
  have HZ := Lib.hid hZs
  have HC := Lib.hid hcapge
  have HM := Lib.hid hcaple
  clear hZ hZs hcaple
  go_enter Try.func132, Try.ntmps132
  go_wp2_with (at_builtin; refine Lib.wpList_append_run _ rfl _ _ _ _ rfl _ _ rfl rfl _ _ (happ _) ?_)
  go_ret
  refine ⟨cap, rfl, ⟨by simp, .inr ⟨w.heap.size, cap, Z, rfl, Nat.le_refl _, heap_alloc_new w.drew _, Nat.zero_le _, HM.out, by rw [HZ.out]; simp, by simp⟩⟩, ?_⟩
  exact (Below.refl _ w).drew.alloc (by simp) _

set_option maxRecDepth 10000 in
set_option maxHeartbeats 2000000 in
theorem concat4_any (b g1 g2 : Nat) (x y z u : Int) (w : World) (hb0 : w.cell? ⟨b, 0, none⟩ = some (.slice (some ⟨g1, 0, none⟩) 2 2)) (hb1 : w.cell? ⟨b, 1, none⟩ = some (.slice (some ⟨g2, 0, none⟩) 2 2)) (hb : b < w.heap.size)
    (k1 : g1 < w.heap.size) (k2 : g2 < w.heap.size) (h0 : w.cell? ⟨g1, 0, none⟩ = some (.int .i64 x)) (h1 : w.cell? ⟨g1, 1, none⟩ = some (.int .i64 y)) (h2 : w.cell? ⟨g2, 0, none⟩ = some (.int .i64 z)) (h3 : w.cell? ⟨g2, 1, none⟩ = some (.int .i64 u)) :
    Calls Try.prog 106 #[.slice (some ⟨b, 0, none⟩) 2 2] w fun e w' => ∃ v, e = .returned v ∧ w'.ownsRow w.heap.size 3 1 v 4 (ints [x, y, z, u]) ∧ Below w.heap.size w w' := by
  obtain ⟨i0, hi, hz0, hz1, hz2⟩ := info_parts int_info
  have HF := Lib.hid (fun V (hV : Below w.heap.size w V) => (⟨(hV.cell (p := ⟨b, 0, none⟩) hb).trans hb0, (hV.cell (p := ⟨b, 1, none⟩) hb).trans hb1, (hV.cell (p := ⟨g1, 0, none⟩) k1).trans h0, (hV.cell (p := ⟨g1, 1, none⟩) k1).trans h1, (hV.cell (p := ⟨g2, 0, none⟩) k2).trans h2, (hV.cell (p := ⟨g2, 1, none⟩) k2).trans h3⟩ : _ ∧ _ ∧ _ ∧ _ ∧ _ ∧ _))
  clear h0 h1 h2 h3 hb0 hb1
  have HG := Lib.hid (grow4_any w)
  go_enter Try.func106, Try.ntmps106
  go_wp2
  go_loopw [3, 11] (fun s i wr => ∃ k : Nat, k ≤ 2 ∧ i = .int .i64 k ∧ s = .int .i64 ((2 * k : Nat) : Int) ∧ wr = w) (fun _ i _ => 2 - (intOf i).toNat)
  case atStart => exact ⟨0, by omega, rfl, rfl, rfl⟩
  case round =>
    obtain ⟨k, hk, rfl, rfl, rfl⟩ := hrel
    obtain ⟨c0, c1, _, _, _, _⟩ := HF.out wr (Below.refl _ _)
    by_cases hlt : k < 2
    · have hcell : wr.cell? ⟨b, k, none⟩ = some (.slice (some ⟨if k = 0 then g1 else g2, 0, none⟩) 2 2) := by
        obtain rfl | rfl : k = 0 ∨ k = 1 := by omega
        · simpa using c0
        · simpa using c1
      clear c0 c1
      go_wp2
      go_roundw
      case rel => exact ⟨k + 1, by omega, by go_num, by go_num, trivial⟩
      case measure => simp [intOf]; omega
    · obtain rfl : k = 2 := by omega
      clear c0 c1
      go_wp2_with fail
      refine HG.out.mono ?_
      rintro e w2 ⟨c, rfl, hown, hb2⟩
      have HO := Lib.hid hown
      have HB := Lib.hid hb2
      clear hown hb2 HG
      obtain ⟨W0, hW0⟩ : ∃ W, W = wr := ⟨_, rfl⟩
      subst hW0
      go_wp2
      go_loopw [6, 27] (fun v i w3 => ∃ k : Nat, k ≤ 2 ∧ i = .int .i64 k ∧ Hid (w3.ownsRow W0.heap.size 3 1 v (2 * k) (ints ([x, y, z, u].take (2 * k)))) ∧ Below W0.heap.size W0 w3) (fun _ i _ => 2 - (intOf i).toNat)
      case atStart => exact ⟨0, by omega, rfl, by simpa [Hid, ints] using HO.out, HB.out⟩
      case round =>
        obtain ⟨k, hk, rfl, ho, hb3⟩ := hrel
        clear HO HB
        by_cases hlt : k < 2
        · obtain ⟨c0, c1, d0, d1, d2, d3⟩ := HF.out _ hb3
          have HX : ∃ (ad : Addr) (p q : Int), wr.cell? ⟨b, k, none⟩ = some (.slice (some ad) 2 2) ∧ Hid (∀ j v, (ints [p, q])[j]? = some v → wr.cell? (ad.add j) = some v) ∧ Hid (ints ([x, y, z, u].take (2 * k)) ++ ints [p, q] = ints ([x, y, z, u].take (2 * (k + 1)))) := by
            obtain rfl | rfl : k = 0 ∨ k = 1 := by omega
            · refine ⟨⟨g1, 0, none⟩, x, y, c0, fun j v hj => ?_, by simp [Hid, ints]⟩
              rw [Addr.add_lit]
              have hj2 : j < 2 := by simpa [ints] using (List.getElem?_eq_some_iff.1 hj).1
              obtain rfl | rfl : j = 0 ∨ j = 1 := by omega
              · simp [ints] at hj; rw [← hj]; exact d0
              · simp [ints] at hj; rw [← hj]; exact d1
            · refine ⟨⟨g2, 0, none⟩, z, u, c1, fun j v hj => ?_, by simp [Hid, ints]⟩
              rw [Addr.add_lit]
              have hj2 : j < 2 := by simpa [ints] using (List.getElem?_eq_some_iff.1 hj).1
              obtain rfl | rfl : j = 0 ∨ j = 1 := by omega
              · simp [ints] at hj; rw [← hj]; exact d2
              · simp [ints] at hj; rw [← hj]; exact d3
          obtain ⟨ad, p, q, hcell, hcs, hnx⟩ := HX
          have HB3 := Lib.hid hb3
          have hsz := hb3.size
          clear c0 c1 d0 d1 d2 d3 hb3
          go_wp2_with (at_builtin; refine wpList_append_own _ rfl _ _ 23 rfl W0.heap.size 3 i0 (.int .i64 0) 1 8 Try.underlying23 hi hz0 hz1 hz2 rfl (by decide) _ (2 * k) _ rfl ho.out ad 2 2 (ints [p, q]) rfl rfl hcs.out (ints_oneCell _) (by unfold maxLen; omega) (by omega) (by omega) ?_)
          intro v' w5 hown5 hgr5 _
          have HO5 := Lib.hid hown5
          rw [hnx.out] at HO5
          have HB5 := Lib.hid (HB3.out.grown hgr5 (by omega) (fun i hi => (World.ownsRow.lt ho.out i hi).1))
          clear hown5 hgr5
          go_wp2
          go_roundw
          case rel => exact ⟨k + 1, by omega, by go_num, HO5, HB5.out⟩
          case measure => simp [intOf]; omega
        · obtain rfl : k = 2 := by omega
          go_wp2
          go_ret
          exact ⟨_, rfl, ho.out, hb3⟩

theorem ownsRow_less {w : World} {B B' : Nat} {e : TypeId} {m k : Nat} {v : Value} {xs : List Value} (h : w.ownsRow B e m v k xs) (hB : B' ≤ B) : w.ownsRow B' e m v k xs := by
  refine ⟨h.1, ?_⟩
  rcases h.2 with e | ⟨g, cap, cur, e, hb, rest⟩
  · exact .inl e
  · exact .inr ⟨g, cap, cur, e, by omega, rest⟩

theorem concat4_after (w : World) (g1 g2 : Nat) (x y z u : Int) (k1 : g1 < w.heap.size) (k2 : g2 < w.heap.size) (h0 : w.cell? ⟨g1, 0, none⟩ = some (.int .i64 x)) (h1 : w.cell? ⟨g1, 1, none⟩ = some (.int .i64 y)) (h2 : w.cell? ⟨g2, 0, none⟩ = some (.int .i64 z)) (h3 : w.cell? ⟨g2, 1, none⟩ = some (.int .i64 u)) :
    Calls Try.prog 106 #[.slice (some ⟨w.heap.size, 0, none⟩) 2 2] (w.alloc (.cells #[.slice (some ⟨g1, 0, none⟩) 2 2, .slice (some ⟨g2, 0, none⟩) 2 2] 23)) fun e w' => ∃ v, e = .returned v ∧ w'.ownsRow (w.heap.size + 1) 3 1 v 4 (ints [x, y, z, u]) ∧ Below (w.heap.size + 1) (w.alloc (.cells #[.slice (some ⟨g1, 0, none⟩) 2 2, .slice (some ⟨g2, 0, none⟩) 2 2] 23)) w' := by
  have hn := heap_alloc_new w (.cells #[.slice (some ⟨g1, 0, none⟩) 2 2, .slice (some ⟨g2, 0, none⟩) 2 2] 23)
  have hb : Below w.heap.size w (w.alloc (.cells #[.slice (some ⟨g1, 0, none⟩) 2 2, .slice (some ⟨g2, 0, none⟩) 2 2] 23)) := (Below.refl _ _).alloc (Nat.le_refl _) _
  have hs : (w.alloc (.cells #[.slice (some ⟨g1, 0, none⟩) 2 2, .slice (some ⟨g2, 0, none⟩) 2 2] 23)).heap.size = w.heap.size + 1 := by simp
  rw [← hs]
  exact concat4_any w.heap.size g1 g2 x y z u _ (by rw [cell_of_row _ _ _ _ _ (0, 0) hn]; rfl) (by rw [cell_of_row _ _ _ _ _ (0, 0) hn]; rfl) (by omega) (by omega) (by omega)
    ((hb.cell (p := ⟨g1, 0, none⟩) k1).trans h0) ((hb.cell (p := ⟨g1, 1, none⟩) k1).trans h1) ((hb.cell (p := ⟨g2, 0, none⟩) k2).trans h2) ((hb.cell (p := ⟨g2, 1, none⟩) k2).trans h3)

set_option maxRecDepth 10000 in
set_option maxHeartbeats 2000000 in
theorem prtList_any (x y z u : Int) (w : World) :
    Calls Try.prog 51 #[.agg #[.int .i64 x, .int .i64 y, .int .i64 z, .int .i64 u]] w fun e w' => ∃ v, e = .returned v ∧ w'.ownsRow w.heap.size 3 1 v 4 (ints [x, y, z, u]) ∧ Below w.heap.size w w' := by
  have k1 : Blk 59 (w.alloc (.cells #[.int .i64 x, .int .i64 y, .int .i64 z, .int .i64 u] 59)) w.heap.size [x, y, z, u] := heap_alloc_new w _
  have k2 : Below w.heap.size w (w.alloc (.cells #[.int .i64 x, .int .i64 y, .int .i64 z, .int .i64 u] 59)) := (Below.refl _ _).alloc (Nat.le_refl _) _
  have k3 : (w.alloc (.cells #[.int .i64 x, .int .i64 y, .int .i64 z, .int .i64 u] 59)).heap.size = w.heap.size + 1 := by simp
  have HB := Lib.hid k2
  have HL := Lib.hid (fun V => pairList_any x y V)
  have HM := Lib.hid (fun V => pairList_any z u V)
  go_enter Try.func51, Try.ntmps51
  go_wp2
  generalize w.alloc (.cells #[.int .i64 x, .int .i64 y, .int .i64 z, .int .i64 u] 59) = W at *
  have HK := Lib.hid (fun (V : World) (hV : Below W.heap.size W V) => (⟨(k1.below hV k1.lt).cell (i := 0) (by simp), (k1.below hV k1.lt).cell (i := 1) (by simp), (k1.below hV k1.lt).cell (i := 2) (by simp), (k1.below hV k1.lt).cell (i := 3) (by simp)⟩ : _ ∧ _ ∧ _ ∧ _))
  simp only [List.getD_cons_zero, List.getD_cons_succ] at HK
  have HST := Lib.hid (fun (V V' : World) (h1 : Below W.heap.size W V) (h2 : Below V.heap.size V V') => h1.trans (h2.mono h1.size))
  have HSZ := Lib.hid k3
  clear k1 k2 k3
  generalize hB : w.heap.size = B at *
  have HBB := Lib.hid hB
  clear hB
  go_region_held3 (fun V => V.cell? ⟨B, 0, none⟩ = some (.int .i64 x) ∧ V.cell? ⟨B, 1, none⟩ = some (.int .i64 y) ∧ V.cell? ⟨B, 2, none⟩ = some (.int .i64 z) ∧ V.cell? ⟨B, 3, none⟩ = some (.int .i64 u))
    (first
      | exact HK.out _ (Below.refl _ _).drew
      | exact HK.out _ HB1.out
      | exact HK.out _ HB2.out
      | exact HK.out _ HB3.out
      | exact HK.out _ (HB2.out.alloc HB2.out.size _))
    (first
      | (go_at_call 106; refine HC3.out.mono ?_; rintro e w5 ⟨v, rfl, hown, hb5⟩; have HB3 := Lib.hid ((HB2.out.alloc HB2.out.size _).trans (hb5.mono (by have := HB2.out.size; omega))); have HO3 := Lib.hid hown; clear hown hb5)
      | (go_at_call_of 107 (Value.agg #[Value.int IntKind.i64 x, Value.int IntKind.i64 y]); refine (HL.out _).mono ?_; rintro e w3 ⟨g1, rfl, a1, a2, a3, a4, hb⟩; have HB1 := Lib.hid (HST.out _ _ (Below.refl _ W).drew hb); have F1 := Lib.hid (⟨a2, a3, a4⟩ : _ ∧ _ ∧ _); clear hb a1 a2 a3 a4)
      | (go_at_call_of 107 (Value.agg #[Value.int IntKind.i64 z, Value.int IntKind.i64 u]); refine (HM.out _).mono ?_; rintro e w4 ⟨g2, rfl, a1, a2, a3, a4, hb⟩; have HB2 := Lib.hid (HST.out _ _ HB1.out hb); have F2 := Lib.hid (⟨Nat.lt_of_lt_of_le F1.out.1 hb.size, (hb.cell (p := ⟨g1, 0, none⟩) F1.out.1).trans F1.out.2.1, (hb.cell (p := ⟨g1, 1, none⟩) F1.out.1).trans F1.out.2.2, a2, a3, a4⟩ : _ ∧ _ ∧ _ ∧ _ ∧ _ ∧ _); have HC3 := Lib.hid (concat4_after w4 g1 g2 x y z u F2.out.1 a2 F2.out.2.1 F2.out.2.2.1 a3 a4); clear hb a1 a2 a3 a4))
  all_goals
    go_wp2
    go_ret
    rw [HBB.out]
    exact ⟨v, rfl, ownsRow_less HO3.out (by have := HB2.out.size; have := HSZ.out; omega), HB.out.trans (HB3.out.mono (by have := HSZ.out; omega))⟩
end Go.Proofs.Ytamnacgclhaggab
