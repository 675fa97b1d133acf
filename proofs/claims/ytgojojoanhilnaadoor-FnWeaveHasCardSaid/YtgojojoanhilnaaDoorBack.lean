/- RingBack: the ring gone round the other way, by the model and by the program. -/
import Derived.Test.YtgojojoanhilnaaDoorMA
namespace Go.Proofs.YtgojojoanhilnaaDoor
open Go.ChangeShapes Go.WideShapes Go.ChangeAt Go.RowKit

/-- The list gone round the other way from its first point. -/
def backL (l : List Int) : List Int := (List.range l.length).map fun i => l.getD ((l.length - i) % l.length) 0
@[simp] theorem backL_length (l : List Int) : (backL l).length = l.length := by simp [backL]
theorem backL_get (l : List Int) (k : Nat) (hk : k < l.length) : (backL l).getD k 0 = l.getD ((l.length - k) % l.length) 0 := by
  simp [backL, List.getD, hk]

/-- The array half gone back. -/
def backK (l : List Int) (k : Nat) : List Int := (backL l).take k ++ (padR l).drop k
theorem backK_length (l : List Int) (k : Nat) (hk : k ≤ l.length) (h7 : l.length ≤ 7) : (backK l k).length = 7 := by
  have := padR_length l h7
  simp [backK]; omega
theorem backK_step (l : List Int) (k : Nat) (hk : k < l.length) (h7 : l.length ≤ 7) : (backK l k).set k (l.getD ((l.length - k) % l.length) 0) = backK l (k + 1) := by
  rw [← backL_get l k hk]
  unfold backK
  have hl : ((backL l).take k).length = k := by simp; omega
  have hp := padR_length l h7
  rw [List.set_append_right _ _ (by omega), hl, Nat.sub_self, List.drop_eq_getElem_cons (by omega : k < (padR l).length), List.set_cons_zero]
  rw [List.take_succ_eq_append_getElem (by simpa using hk), List.append_assoc]
  simp [List.getD, hk]
theorem backK_full (l : List Int) : backK l l.length = padR (backL l) := by
  unfold backK padR
  rw [List.take_of_length_le (by simp), List.drop_append, backL_length]
  simp
theorem backK_one (l : List Int) (h1 : 1 ≤ l.length) (h7 : l.length ≤ 7) : backK l 1 = padR l := by
  have hp := padR_length l h7
  have h0 : (backK l 0) = padR l := by simp [backK]
  have hs := backK_step l 0 (by omega) h7
  rw [h0, Nat.sub_zero, Nat.mod_self] at hs
  rw [← hs]
  apply ext_getD _ _ (by simp)
  intro k hk
  by_cases e : k = 0
  · subst e
    have := padR_get l 0 (by omega)
    simp only [List.getD_eq_getElem?_getD, List.getElem?_set, if_true] at this ⊢
    rw [if_pos (by omega)]
    exact this.symm
  · simp [List.getD_eq_getElem?_getD, Ne.symm e]

/-- The world of back before its loop: the box, the room for the result, a callee's box, the copy. -/
theorem back_world (w : World) (c z : Array Value) (P Z : List Int) (hc : c = (ints P).toArray) (hz : z = (ints Z).toArray) (W : World)
    (hW : W = (((w.alloc (.cells c 56)).alloc (.cells z 56)).alloc (.cells c 56)).alloc (.cells c 56)) :
    Arr W w.heap.size P ∧ Arr W (w.heap.size + 1) Z ∧ Arr W (w.heap.size + 1 + 1 + 1) P ∧ Below w.heap.size w W ∧ W.heap.size = w.heap.size + 4 := by
  subst hc; subst hz; subst hW
  refine ⟨?_, ?_, ?_, ?_, by simp⟩
  · have h : Arr (w.alloc (.cells (ints P).toArray 56)) w.heap.size P := heap_alloc_new w _
    exact ((h.alloc _).alloc _).alloc _
  · have h : Arr ((w.alloc (.cells (ints P).toArray 56)).alloc (.cells (ints Z).toArray 56)) (w.heap.size + 1) Z := heap_alloc2_new w _ _
    exact (h.alloc _).alloc _
  · have := heap_alloc_new (((w.alloc (.cells (ints P).toArray 56)).alloc (.cells (ints Z).toArray 56)).alloc (.cells (ints P).toArray 56)) (.cells (ints P).toArray 56)
    simp only [World.alloc, Array.size_push] at this ⊢
    exact this
  · exact ((((Below.refl _ _).alloc (Nat.le_refl _) _).alloc (by simp) _).alloc (by simp; omega) _).alloc (by simp; omega) _

set_option maxHeartbeats 1000000 in
theorem back_any (l : List Int) (w : World) (h1 : 1 ≤ l.length) (hl : l.length ≤ 7) (hp : ∀ x ∈ l, 0 ≤ x) :
    Calls Tryd.prog 33 #[agp l] w fun e w' => e = .returned (agp (backL l)) ∧ Below w.heap.size w w' := by
  obtain ⟨a0, a1, a2, a3, a4, a5, a6, hP⟩ := seven (padR_length l hl)
  have HS := fun W => Lib.hid (size_any l W hl hp)
  have hz : backK l 1 = [a0, a1, a2, a3, a4, a5, a6] := by rw [backK_one l h1 hl, hP]
  have hga : ∀ k, k < l.length → ([a0, a1, a2, a3, a4, a5, a6] : List Int).getD k 0 = l.getD k 0 := fun k hk => by rw [← hP]; exact padR_get l k hk
  have HGA := Lib.hid hga
  unfold agp at HS ⊢
  rw [hP] at HS ⊢
  simp only [ints, List.map_cons, List.map_nil] at HS ⊢
  have hzz : (List.map (Value.int IntKind.i64) (padR (backL l))) = ints (backK l l.length) := by rw [backK_full]; rfl
  rw [hzz]
  clear hzz hP hp hga
  generalize hn : l.length = n at *
  have HN := Lib.hid hn
  have HZ := Lib.hid hz
  have HSS := Lib.hid HS
  clear hn hz HS
  go_enter Tryd.func33, Tryd.ntmps33
  go_wp2_with (go_at_call 63; refine ((HSS.out _).out).mono ?_; rintro e w' ⟨rfl, rfl⟩)
  obtain ⟨W, hW⟩ : ∃ W, W = (((w.alloc (.cells #[.int .i64 a0, .int .i64 a1, .int .i64 a2, .int .i64 a3, .int .i64 a4, .int .i64 a5, .int .i64 a6] 56)).alloc (.cells #[.int .i64 0, .int .i64 0, .int .i64 0, .int .i64 0, .int .i64 0, .int .i64 0, .int .i64 0] 56)).alloc (.cells #[.int .i64 a0, .int .i64 a1, .int .i64 a2, .int .i64 a3, .int .i64 a4, .int .i64 a5, .int .i64 a6] 56)).alloc (.cells #[.int .i64 a0, .int .i64 a1, .int .i64 a2, .int .i64 a3, .int .i64 a4, .int .i64 a5, .int .i64 a6] 56) := ⟨_, rfl⟩
  rw [← hW]
  obtain ⟨k1, k2, k3, k4, k5⟩ := back_world w _ _ [a0, a1, a2, a3, a4, a5, a6] zero7 rfl rfl W hW
  rw [← HZ.out] at k3
  have HB := Lib.hid k1
  have HR := Lib.hid k2
  have HG := Lib.hid k3
  clear k1 k2 k3 hW
  generalize hB : w.heap.size = B at *
  have HBB := Lib.hid hB
  clear hB k5
  go_loopw [5] (fun i wr => ∃ k : Nat, 1 ≤ k ∧ k ≤ n ∧ i = .int .i64 k ∧ Hid (Arr wr (B + 1 + 1 + 1) (backK l k)) ∧ Hid (Arr wr B [a0, a1, a2, a3, a4, a5, a6]) ∧ Hid (Arr wr (B + 1) zero7) ∧ Below B w wr) (fun i _ => n - (intOf i).toNat)
  case atStart => exact ⟨1, by omega, h1, rfl, HG, HB, HR, k4⟩
  case round =>
    obtain ⟨k, hk1, hk, rfl, hG, hB, hR, hbl⟩ := hrel
    clear HG HB HR k4
    by_cases hlt : k < n
    · have hcb := hB.out.cell (i := n - k) (by simp; omega)
      rw [HGA.out _ (by omega)] at hcb
      have hG7 := backK_length l k (by rw [HN.out]; exact hk) (by rw [HN.out]; exact hl)
      have hcg := hG.out.cell (i := k) (by rw [hG7]; omega)
      have hfg := hG.out.frozen k
      have hst := hG.out.set_ k (l.getD (n - k) 0)
      have hsp := backK_step l k (by rw [HN.out]; exact hlt) (by rw [HN.out]; exact hl)
      rw [HN.out, Nat.mod_eq_of_lt (by omega : n - k < n)] at hsp
      rw [hsp] at hst
      have HST := Lib.hid hst
      clear hst hG7 hsp
      generalize (backK l k).getD k 0 = old at hcg
      generalize l.getD (n - k) 0 = y at hcb HST
      go_wp2
      go_roundw
      case rel => exact ⟨k + 1, by omega, by omega, by go_num, HST, Lib.hid (hB.out.far (by simp; omega) _), Lib.hid (hR.out.far (by simp) _), hbl.setCell (by simp; omega) _⟩
      case measure => simp [intOf]; omega
    · obtain rfl : k = n := by omega
      have h7 : Hid ((backK l k).length = 7) := backK_length l k (by rw [HN.out]; exact hk) (by rw [HN.out]; exact hl)
      generalize hPR : backK l k = PR at *
      have HPR := Lib.hid hPR
      clear hPR
      go_wp2_with (first
        | (refine load_ring rfl _ rfl (B + 1 + 1 + 1) PR h7.out rfl hG ?_)
        | (refine store_ring rfl _ _ rfl (B + 1) zero7 PR rfl h7.out rfl rfl hR ?_; intro w6 HB6 hg6 _))
      try simp only [Exit.inBlock, Exit.then]
      exact ret_ring rfl (B + 1) PR h7.out rfl HB6 rfl ⟨by rw [HPR.out], by rw [HBB.out]; exact hbl.grown hg6 (by have := hbl.size; have := HBB.out; omega) (by simp)⟩
end Go.Proofs.YtgojojoanhilnaaDoor
