/- Points called by other numbers: the program's array. -/
import Derived.Test.YtamnacgclhaggabPR
namespace Go.Proofs.Ytamnacgclhaggab
open Go.ChangeShapes Go.WideShapes Go.ChangeAt Go.RowKit

/-- The list with each point called by what p has at its place. -/
def callL (l p : List Int) : List Int := l.map fun x => p.getD x.toNat 0
@[simp] theorem callL_length (l p : List Int) : (callL l p).length = l.length := by simp [callL]
theorem callL_get (l p : List Int) (k : Nat) (hk : k < l.length) : (callL l p).getD k 0 = p.getD (l.getD k 0).toNat 0 := by
  simp [callL, List.getD, hk]
theorem callL_pos (l p : List Int) (hl : Tell l) (hp : Tell p) (e : p.length = l.length) : ∀ x ∈ callL l p, 0 ≤ x := fun x hx => by
  obtain ⟨y, hy, rfl⟩ := List.mem_map.1 hx
  have := hl.2.2.1 y hy
  exact hp.pos _ (getD_mem p _ (by omega))
theorem callL_zero (l p : List Int) (hl : Tell l) (hp : Tell p) (e : p.length = l.length) : (0 : Int) ∈ callL l p := by
  have h0 := at_idx p 0 hp.zero
  have hlt := List.idxOf_lt_length_of_mem hp.zero
  refine List.mem_map.2 ⟨(p.idxOf 0 : Int), hl.has (by omega) (by omega), ?_⟩
  simpa using h0

def callK (l p : List Int) (k : Nat) : List Int := (callL l p).take k ++ (padR l).drop k
theorem callK_length (l p : List Int) (k : Nat) (hk : k ≤ l.length) (h7 : l.length ≤ 7) : (callK l p k).length = 7 := by
  have := padR_length l h7
  simp [callK]; omega
theorem callK_zero (l p : List Int) : callK l p 0 = padR l := by simp [callK]
theorem callK_step (l p : List Int) (k : Nat) (hk : k < l.length) (h7 : l.length ≤ 7) : (callK l p k).set k (p.getD (l.getD k 0).toNat 0) = callK l p (k + 1) := by
  rw [← callL_get l p k hk]
  unfold callK
  have hl : ((callL l p).take k).length = k := by simp; omega
  have hp := padR_length l h7
  rw [List.set_append_right _ _ (by omega), hl, Nat.sub_self, List.drop_eq_getElem_cons (by omega : k < (padR l).length), List.set_cons_zero]
  rw [List.take_succ_eq_append_getElem (by simpa using hk), List.append_assoc]
  simp [List.getD, hk]
theorem callK_full (l p : List Int) : callK l p l.length = padR (callL l p) := by
  unfold callK padR
  rw [List.take_of_length_le (by simp), List.drop_append, callL_length]
  simp

/-- The world of named before its loop. -/
theorem named_world (w : World) (c d z : Array Value) (P Q Z : List Int) (hc : c = (ints P).toArray) (hd : d = (ints Q).toArray) (hz : z = (ints Z).toArray) (W : World)
    (hW : W = ((((w.alloc (.cells c 50)).alloc (.cells d 50)).alloc (.cells z 50)).alloc (.cells c 50)).alloc (.cells c 50)) :
    Arr W w.heap.size P ∧ Arr W (w.heap.size + 1) Q ∧ Arr W (w.heap.size + 1 + 1) Z ∧ Arr W (w.heap.size + 1 + 1 + 1) P ∧ Below w.heap.size w W ∧ W.heap.size = w.heap.size + 5 := by
  subst hc; subst hd; subst hz; subst hW
  refine ⟨?_, ?_, ?_, ?_, ?_, by simp⟩
  · have h : Arr (w.alloc (.cells (ints P).toArray 50)) w.heap.size P := heap_alloc_new w _
    exact (((h.alloc _).alloc _).alloc _).alloc _
  · have h : Arr ((w.alloc (.cells (ints P).toArray 50)).alloc (.cells (ints Q).toArray 50)) (w.heap.size + 1) Q := heap_alloc2_new w _ _
    exact ((h.alloc _).alloc _).alloc _
  · have h : Arr (((w.alloc (.cells (ints P).toArray 50)).alloc (.cells (ints Q).toArray 50)).alloc (.cells (ints Z).toArray 50)) (w.heap.size + 1 + 1) Z := by
      have := heap_alloc_new ((w.alloc (.cells (ints P).toArray 50)).alloc (.cells (ints Q).toArray 50)) (.cells (ints Z).toArray 50)
      simp only [World.alloc, Array.size_push] at this ⊢
      exact this
    exact (h.alloc _).alloc _
  · have h : Arr ((((w.alloc (.cells (ints P).toArray 50)).alloc (.cells (ints Q).toArray 50)).alloc (.cells (ints Z).toArray 50)).alloc (.cells (ints P).toArray 50)) (w.heap.size + 1 + 1 + 1) P := by
      have := heap_alloc_new (((w.alloc (.cells (ints P).toArray 50)).alloc (.cells (ints Q).toArray 50)).alloc (.cells (ints Z).toArray 50)) (.cells (ints P).toArray 50)
      simp only [World.alloc, Array.size_push] at this ⊢
      exact this
    exact h.alloc _
  · exact (((((Below.refl _ _).alloc (Nat.le_refl _) _).alloc (by simp) _).alloc (by simp; omega) _).alloc (by simp; omega) _).alloc (by simp; omega) _

set_option maxHeartbeats 1000000 in
theorem named_any (l p : List Int) (w : World) (hl : Tell l) (hp : Tell p) (e : p.length = l.length) :
    Calls Try.prog 94 #[agp l, agp p] w fun e w' => e = .returned (agp (cutL (callL l p) 0)) ∧ Below w.heap.size w w' := by
  have h7 := hl.2.1
  have h3 := hl.1
  obtain ⟨a0, a1, a2, a3, a4, a5, a6, hP⟩ := seven (padR_length l h7)
  obtain ⟨b0, b1, b2, b3, b4, b5, b6, hQ⟩ := seven (padR_length p hp.2.1)
  have HS := fun W => Lib.hid (size_any l W h7 hl.pos)
  have HC := fun W => Lib.hid (cut_any (callL l p) 0 W (by rw [callL_length]; omega) (by rw [callL_length]; exact h7) (callL_pos l p hl hp e) (callL_zero l p hl hp e))
  have hga : ∀ k, k < l.length → ([a0, a1, a2, a3, a4, a5, a6] : List Int).getD k 0 = l.getD k 0 := fun k hk => by rw [← hP]; exact padR_get l k hk
  have hgb : ∀ k, k < p.length → ([b0, b1, b2, b3, b4, b5, b6] : List Int).getD k 0 = p.getD k 0 := fun k hk => by rw [← hQ]; exact padR_get p k hk
  have hz : callK l p 0 = [a0, a1, a2, a3, a4, a5, a6] := by rw [callK_zero, hP]
  have hin : ∀ k, k < l.length → 0 ≤ l.getD k 0 ∧ l.getD k 0 < l.length := fun k hk => hl.2.2.1 _ (getD_mem l k hk)
  have hD : (padR (cutL (callL l p) 0)).length = 7 := padR_length _ (by rw [cutL_length, callL_length]; exact h7)
  unfold agp at HS HC ⊢
  rw [← callK_full l p] at HC
  rw [hP] at HS ⊢
  rw [hQ]
  rw [e] at hgb
  have h7b := hp.2.1
  rw [e] at h7b
  simp only [ints, List.map_cons, List.map_nil] at HS ⊢
  have HSS := Lib.hid HS
  have HCC := Lib.hid HC
  have HGA := Lib.hid hga
  have HGB := Lib.hid hgb
  have HIN := Lib.hid hin
  have HZ := Lib.hid hz
  have HD := Lib.hid hD
  have hdd : List.map (Value.int IntKind.i64) (padR (cutL (callL l p) 0)) = ints (padR (cutL (callL l p) 0)) := rfl
  rw [hdd]
  clear hdd HS HC hga hgb hin hz hP hQ hl hp e hD h7b
  generalize padR (cutL (callL l p) 0) = D at *
  generalize hn : l.length = n at *
  have HN := Lib.hid hn
  clear hn
  go_enter Try.func94, Try.ntmps94
  go_wp2_with (go_at_call 103; refine ((HSS.out _).out).mono ?_; rintro e w' ⟨rfl, rfl⟩)
  obtain ⟨W, hW⟩ : ∃ W, W = ((((w.alloc (.cells #[.int .i64 a0, .int .i64 a1, .int .i64 a2, .int .i64 a3, .int .i64 a4, .int .i64 a5, .int .i64 a6] 50)).alloc (.cells #[.int .i64 b0, .int .i64 b1, .int .i64 b2, .int .i64 b3, .int .i64 b4, .int .i64 b5, .int .i64 b6] 50)).alloc (.cells #[.int .i64 0, .int .i64 0, .int .i64 0, .int .i64 0, .int .i64 0, .int .i64 0, .int .i64 0] 50)).alloc (.cells #[.int .i64 a0, .int .i64 a1, .int .i64 a2, .int .i64 a3, .int .i64 a4, .int .i64 a5, .int .i64 a6] 50)).alloc (.cells #[.int .i64 a0, .int .i64 a1, .int .i64 a2, .int .i64 a3, .int .i64 a4, .int .i64 a5, .int .i64 a6] 50) := ⟨_, rfl⟩
  rw [← hW]
  obtain ⟨k1, k2, k3, k4, k5, k6⟩ := named_world w _ _ _ [a0, a1, a2, a3, a4, a5, a6] [b0, b1, b2, b3, b4, b5, b6] zero7 rfl rfl rfl W hW
  rw [← HZ.out] at k4
  have HA := Lib.hid k1
  have HQ := Lib.hid k2
  have HR := Lib.hid k3
  have HG := Lib.hid k4
  clear k1 k2 k3 k4 hW k6
  generalize hB : w.heap.size = B at *
  have HBB := Lib.hid hB
  clear hB
  go_loopw [10] (fun i wr => ∃ k : Nat, k ≤ n ∧ i = .int .i64 k ∧ Hid (Arr wr (B + 1 + 1 + 1) (callK l p k)) ∧ Hid (Arr wr B [a0, a1, a2, a3, a4, a5, a6]) ∧ Hid (Arr wr (B + 1) [b0, b1, b2, b3, b4, b5, b6]) ∧ Hid (Arr wr (B + 1 + 1) zero7) ∧ Below B w wr) (fun i _ => n - (intOf i).toNat)
  case atStart => exact ⟨0, Nat.zero_le _, rfl, HG, HA, HQ, HR, k5⟩
  case round =>
    obtain ⟨k, hk, rfl, hG, hA, hQ, hR, hbl⟩ := hrel
    clear HG HA HQ HR k5
    by_cases hlt : k < n
    · have hca := hA.out.cell (i := k) (by simp; omega)
      rw [HGA.out _ hlt] at hca
      obtain ⟨hx0, hx1⟩ := HIN.out k hlt
      have hcq := hQ.out.cell (i := (l.getD k 0).toNat) (by show (l.getD k 0).toNat < 7; omega)
      rw [HGB.out _ (by omega)] at hcq
      have hG7 := callK_length l p k (by rw [HN.out]; exact hk) (by rw [HN.out]; exact h7)
      have hcg := hG.out.cell (i := k) (by rw [hG7]; omega)
      have hfg := hG.out.frozen k
      have hst := hG.out.set_ k (p.getD (l.getD k 0).toNat 0)
      have hsp := callK_step l p k (by rw [HN.out]; exact hlt) (by rw [HN.out]; exact h7)
      rw [hsp] at hst
      have HST := Lib.hid hst
      clear hst hG7 hsp
      generalize (callK l p k).getD k 0 = old at hcg
      generalize l.getD k 0 = x at *
      generalize p.getD x.toNat 0 = y at *
      go_wp2
      go_roundw
      case rel => exact ⟨k + 1, by omega, by go_num, HST, Lib.hid (hA.out.far (by simp; omega) _), Lib.hid (hQ.out.far (by simp) _), Lib.hid (hR.out.far (by simp) _), hbl.setCell (by simp; omega) _⟩
      case measure => simp [intOf]; omega
    · obtain rfl : k = n := by omega
      have h7k : Hid ((callK l p k).length = 7) := callK_length l p k (by rw [HN.out]; exact hk) (by rw [HN.out]; exact h7)
      generalize callK l p k = PR at *
      have hlr := hR.out.lt
      go_wp2_with (refine load_ring rfl _ rfl (B + 1 + 1 + 1) PR h7k.out rfl hG ?_)
      refine ((HCC.out _).out).mono ?_
      rintro e w3 ⟨rfl, hb3⟩
      have HR3 := Lib.hid (hR.out.below hb3 hlr)
      have hb4 := Lib.hid (hbl.trans (hb3.mono (by omega)))
      have hs3 := hb3.size
      clear hb3
      go_wp2_with (refine store_ring rfl _ _ rfl (B + 1 + 1) zero7 D rfl HD.out rfl rfl HR3 ?_; intro w6 HB6 hg6 _)
      try simp only [Exit.inBlock, Exit.then]
      exact ret_ring rfl (B + 1 + 1) D HD.out rfl HB6 rfl ⟨rfl, by rw [HBB.out]; exact hb4.out.grown hg6 (by omega) (by simp; omega)⟩
end Go.Proofs.Ytamnacgclhaggab
