/- Lists that the model and the program make: a list cut at a point, an array's list. -/
import Derived.Test.YtjpbmhlojpaieaaDoorRing
import Derived.Maps.AppendAt
import Derived.Lib.SliceRun
namespace Go.Proofs.YtjpbmhlojpaieaaDoor
open Go.ChangeShapes Go.WideShapes Go.ChangeAt Go.RowKit

theorem own_empty (w : World) (B : Nat) (hB : B ≤ w.heap.size) : Own (w.alloc (.cells #[] 3)) B (.slice (some ⟨w.heap.size, 0, none⟩) 0 0) [] :=
  World.ownsRow_lit w #[] 0 hB (by unfold maxLen; omega) rfl

theorem own_less {w : World} {B B' : Nat} {v : Value} {l : List Int} (h : Own w B v l) (hB : B' ≤ B) : Own w B' v l := by
  refine ⟨h.1, ?_⟩
  rcases h.2 with h | ⟨g, cap, cur, hv, hg, r⟩
  · exact .inl h
  · exact .inr ⟨g, cap, cur, hv, Nat.le_trans hB hg, r⟩

theorem own_below {w w' : World} {B : Nat} {v : Value} {k : Nat} {xs : List Value} {a : World} {o : Obj} (hown : w.ownsRow B 3 1 v k xs) (hb : Below B a w) (hB : B ≤ w.heap.size)
    (hg : (w.alloc o).grownBy w' v.ownBlock) : Below B a w' :=
  (hb.alloc hB o).grown hg (by simp; omega) fun k hk => (hown.lt k hk).1

theorem one_cell (w : World) (y : Value) (t : TypeId) : ∀ j u, [y][j]? = some u → (w.alloc (.cells #[y] t)).cell? ((⟨w.heap.size, 0, none⟩ : Addr).add j) = some u := cell_one_new w y t

theorem take_snoc (l : List Int) (k : Nat) (h : k < l.length) : ints (l.take k) ++ [.int .i64 (l.getD k 0)] = ints (l.take (k + 1)) := by
  rw [List.take_succ_eq_append_getElem h, ints, ints, List.map_append]
  simp [List.getD, h]

set_option maxHeartbeats 1000000 in
theorem cutS_any (A : Option Addr) (n c H : Nat) (l : List Int) (x : Int) (w : World) (h : Rd w H A n l) (hH : H ≤ w.heap.size) (h1 : 1 ≤ n) (hn : n ≤ 7) (hm : x ∈ l) :
    Calls Tryd.prog 43 #[.slice A n c, .int .i64 x] w fun e w' => ∃ v, e = .returned v ∧ Own w' w.heap.size v (cutL l x) ∧ Below w.heap.size w w' := by
  obtain ⟨i0, hi, hz0, hz1, hz2⟩ := info_parts int_info
  have HL := Lib.hid h.len
  have HM := Lib.hid hm
  have hs : l.idxOf x < n := by rw [← h.len]; exact List.idxOf_lt_length_of_mem hm
  have hlen : (cutL l x).length = n := by rw [cutL_length, HL.out]
  have HCL := Lib.hid hlen
  have hget : Hid (∀ k, k < n → (cutL l x).getD k 0 = l.getD ((l.idxOf x + k) % n) 0) := fun k hk => by rw [← HL.out]; exact cutL_get l x k (by rw [HL.out]; exact hk)
  have hat := fun W hW => Lib.hid (at_any A n c H l x W hW (by omega) HM.out)
  have HAT := Lib.hid hat
  have ho0 := own_empty w _ (Nat.le_refl _)
  have hb0 := (Below.refl w.heap.size w).alloc (Nat.le_refl _) (.cells #[] 3)
  have hr0 := h.alloc hH (.cells #[] 3)
  clear hat hlen h hm
  generalize l.idxOf x = s at *
  go_enter Tryd.func43, Tryd.ntmps43
  go_wp2_with fail
  refine ((HAT.out _ hr0).out).mono ?_
  rintro e w' ⟨rfl, rfl⟩
  generalize hC : cutL l x = C at *
  have HC := Lib.hid hC
  clear hC
  go_wp2_with fail
  obtain ⟨W0, h0⟩ : ∃ W, W = w.alloc (.cells #[] 3) := ⟨_, rfl⟩
  rw [← h0] at ho0 hb0 hr0 ⊢
  clear h0
  have hsz : w.heap.size ≤ w.heap.size := Nat.le_refl _
  go_loopw [5, 7] (fun v i wr => ∃ k : Nat, k ≤ n ∧ i = .int .i64 k ∧ Hid (wr.ownsRow w.heap.size 3 1 v k (ints (C.take k))) ∧ Rd wr H A n l ∧ Below w.heap.size w wr) (fun _ i _ => n - (intOf i).toNat)
  case atStart => exact ⟨0, Nat.zero_le _, rfl, by simpa [Own, Hid, ints] using ho0, hr0, hb0⟩
  case round =>
    obtain ⟨k, hk, rfl, hown, hrd, hbl⟩ := hrel
    clear ho0 hb0 hr0 HAT
    by_cases hlt : k < n
    · obtain ⟨b, o, rfl, hbH, hcs⟩ := hrd.at_ (by omega)
      have hmod : (s + k) % n < n := Nat.mod_lt _ (by omega)
      have hc := hcs ((s + k) % n) hmod
      rw [← hget.out k hlt] at hc
      have hsn := Lib.hid (take_snoc C k (by rw [HCL.out]; exact hlt))
      have hmi : ((s : Int) + (k : Int)) % (n : Int) < (n : Int) := Int.emod_lt_of_pos _ (by omega)
      have hmo : 0 ≤ ((s : Int) + (k : Int)) % (n : Int) := Int.emod_nonneg _ (by omega)
      clear hcs
      generalize C.getD k 0 = y at hc hsn
      go_wp2_with (at_builtin; refine wpList_append_own _ rfl _ _ 22 rfl w.heap.size 3 i0 (.int .i64 0) 1 8 Tryd.underlying22 hi hz0 hz1 hz2 rfl (by decide) _ _ _ rfl (hown.out.alloc _) ⟨wr.heap.size, 0, none⟩ 1 1 [.int .i64 y] rfl rfl (one_cell wr _ _) (by simp [Value.oneCell']) (by unfold maxLen; omega) (by omega) (by have := hbl.size; simp; omega) ?_)
      intro v' w1 hown' hgrow _
      rw [hsn.out] at hown'
      have HO := Lib.hid hown'
      have hb1 := own_below hown.out hbl hbl.size hgrow
      have hr1 := (hrd.alloc (Nat.le_trans hH hbl.size) (.cells #[.int .i64 y] 3)).below ((Below.refl H _).grown hgrow (by have := hbl.size; simp; omega) (fun q hq => Nat.le_trans hH (hown.out.lt q hq).1))
      clear hown' hgrow
      go_wp2
      go_roundw
      case rel => exact ⟨k + 1, by omega, by go_num, HO, hr1, hb1⟩
      case measure => simp [intOf]; omega
    · obtain rfl : k = n := by omega
      go_wp2
      go_ret
      refine ⟨_, rfl, ?_, hbl⟩
      have := hown.out
      rw [List.take_of_length_le (by rw [HCL.out]; omega)] at this
      unfold Own
      rw [HC.out, HCL.out]
      exact this

theorem rd_cells {w : World} {H b o n : Nat} {l : List Int} (h : Rd w H (some ⟨b, o, none⟩) n l) : ∀ j u, (ints l)[j]? = some u → w.cell? ((⟨b, o, none⟩ : Addr).add j) = some u := by
  intro j u hu
  have hj : j < l.length := by
    have := (List.getElem?_eq_some_iff.1 hu).1
    simpa using this
  have hn : j < n := by rw [← h.len]; exact hj
  obtain ⟨b', o', e, _, hc⟩ := h.at_ (by omega)
  injection e with e
  injection e with e1 e2 _
  subst e1; subst e2
  rw [Addr.add_lit, hc j hn, ← hu, ints_get _ _ hj]

/-- A cut of an array up to a length. -/
theorem slice_ring (W : World) (b n : Nat) (hn : n ≤ 7) :
    (Instr.sliceAt 39 (.pointer (some ⟨b, 0, none⟩)) none (some (.int .i64 (n : Int))) none).run Tryd.prog W = .ok (.slice (some ⟨b, 0, none⟩) n 7) W := by
  obtain ⟨i, hi, _, hs, _⟩ := info_parts int_info
  have hal : Tryd.prog.arrayLen 39 = 7 := by kernel_rfl
  have hel : Tryd.prog.elem 39 = 3 := by kernel_rfl
  have h := run_sliceAt_array_h (P := Tryd.prog) W 39 ⟨b, 0, none⟩ (by rw [hal, hel]; exact Tryd.underlying39) .i64 (n : Int) (by omega) (by rw [hal]; omega)
  rw [h, hel, run_sizeOf W hi, Result.andThen_ok, hal]
  simp [slicedAt, Addr.add]

end Go.Proofs.YtjpbmhlojpaieaaDoor
