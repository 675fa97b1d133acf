/- Several texts as one: Has CutT Next NextT StepsT Of Back BackT Num NumT. -/
import Derived.Test.YtbfdbnminjhocaaMA
import Derived.IntWalk
namespace Go.Proofs.Ytbfdbnminjhocaa
open Go.ChangeShapes Go.WideShapes Go.ChangeAt Go.RowKit

theorem has_any (l : List Int) (x : Int) (w : World) (hl : l.length ≤ 7) (hp : ∀ x ∈ l, 0 ≤ x) :
    Calls Try.prog 56 #[agp l, .int .i64 x] w fun e w' => e = .returned (.bool (decide (0 ≤ x ∧ x < l.length))) ∧ Below w.heap.size w w' := by
  obtain ⟨a0, a1, a2, a3, a4, a5, a6, hP⟩ := seven (padR_length l hl)
  have HS := fun W => Lib.hid (size_any l W hl hp)
  unfold agp at HS ⊢
  rw [hP] at HS ⊢
  simp only [ints, List.map_cons, List.map_nil] at HS ⊢
  have HSS := Lib.hid HS
  clear hP hp HS hl
  generalize l.length = n at *
  have hb1 := Lib.hid ((Below.refl w.heap.size w).alloc (Nat.le_refl _) (.cells #[.int .i64 a0, .int .i64 a1, .int .i64 a2, .int .i64 a3, .int .i64 a4, .int .i64 a5, .int .i64 a6] 52))
  have hb2 := Lib.hid (hb1.out.alloc (by simp) (.cells #[.int .i64 a0, .int .i64 a1, .int .i64 a2, .int .i64 a3, .int .i64 a4, .int .i64 a5, .int .i64 a6] 52))
  by_cases h0 : 0 ≤ x
  · by_cases h1 : x < (n : Int)
    all_goals
      go_enter Try.func56, Try.ntmps56
      go_wp2_with (go_at_call 97; refine ((HSS.out _).out).mono ?_; rintro e w' ⟨rfl, rfl⟩)
      go_ret
      exact ⟨by simp_all, hb2.out⟩
  · have hd : decide (0 ≤ x ∧ x < (n : Int)) = false := by simp; omega
    rw [hd]
    clear hd
    go_enter Try.func56, Try.ntmps56
    go_wp2_with fail
    go_ret
    exact ⟨rfl, hb1.out⟩

/-- A ring and a point of it. -/
def hasB (l : List Int) (x : Int) : Bool := ringB l && decide (0 ≤ x ∧ x < l.length)

theorem hasS_any (A : Option Addr) (n c H : Nat) (l : List Int) (x : Int) (w : World) (h : Rd w H A n l) (hn : n ≤ 1048576) :
    Calls Try.prog 90 #[.slice A n c, .int .i64 x] w fun e w' => e = .returned (.bool (hasB l x)) ∧ w = w' := by
  have he := fun W hW => Lib.hid (ringS_any A n c H l W hW hn)
  have HE := Lib.hid he
  have HL := Lib.hid h.len
  clear he
  unfold hasB
  rw [HL.out]
  by_cases ht : Ring l
  · have h3 := ht.1.1
    rw [HL.out] at h3
    have e : decide (0 ≤ x ∧ x < (n : Int)) = (decide (0 ≤ x) && decide (x ≤ (n : Int) - 1)) := by
      rw [Bool.eq_iff_iff]; simp; omega
    rw [ring_yes ht] at HE ⊢
    rw [e]
    clear e ht
    go_enter Try.func90, Try.ntmps90
    go_wp2_with (first
      | (go_at_call 53; refine ((HE.out _ h).out).mono ?_; rintro e w' ⟨rfl, rfl⟩)
      | (go_at_call 69; refine (in_any _ _ _ _).mono ?_; rintro e w' ⟨rfl, rfl⟩))
    go_ret
    exact ⟨rfl, rfl⟩
  · rw [ring_no ht] at HE ⊢
    clear ht
    go_enter Try.func90, Try.ntmps90
    go_wp2_with (go_at_call 53; refine ((HE.out _ h).out).mono ?_; rintro e w' ⟨rfl, rfl⟩)
    go_ret
    exact ⟨rfl, rfl⟩

theorem hasB_yes {l : List Int} {x : Int} (h : hasB l x = true) : Ring l ∧ 0 ≤ x ∧ x < l.length ∧ x ∈ l := by
  simp only [hasB, ringB, Bool.and_eq_true, decide_eq_true_eq] at h
  exact ⟨h.1, h.2.1, h.2.2, h.1.1.has h.2.1 h.2.2⟩
end Go.Proofs.Ytbfdbnminjhocaa

namespace Go.Proofs.Ytbfdbnminjhocaa
open Go.ChangeShapes Go.WideShapes Go.ChangeAt Go.RowKit

def cutR (l : List Int) (x : Int) : List Int := if hasB l x then cutL l x else []
theorem cutR_length (l : List Int) (x : Int) : (cutR l x).length ≤ 7 := by
  unfold cutR
  split
  · rename_i h; rw [cutL_length]; exact (hasB_yes h).1.1.2.1
  · simp
theorem cutL_pos (l : List Int) (x : Int) (h : Tell l) : ∀ y ∈ cutL l x, 0 ≤ y := fun y hy => by
  obtain ⟨i, _, rfl⟩ := List.mem_map.1 hy
  exact h.pos _ (getD_mem l _ (Nat.mod_lt _ (by have := h.1; omega)))

end Go.Proofs.Ytbfdbnminjhocaa

namespace Go.Proofs.Ytbfdbnminjhocaa
open Go.ChangeShapes Go.WideShapes Go.ChangeAt Go.RowKit

theorem box_world (w : World) (c : Array Value) (P : List Int) (hc : c = (ints P).toArray) (W : World) (hW : W = w.alloc (.cells c 52)) :
    Arr W w.heap.size P ∧ Below w.heap.size w W ∧ W.heap.size = w.heap.size + 1 := by
  subst hc; subst hW
  exact ⟨heap_alloc_new w _, (Below.refl _ _).alloc (Nat.le_refl _) _, by simp⟩

set_option maxHeartbeats 1000000 in
theorem next_any (l : List Int) (x : Int) (w : World) (h1 : 1 ≤ l.length) (hl : l.length ≤ 7) (hp : ∀ x ∈ l, 0 ≤ x) (hm : x ∈ l) :
    Calls Try.prog 91 #[agp l, .int .i64 x] w fun e w' => e = .returned (.int .i64 (l.getD ((l.idxOf x + 1) % l.length) 0)) ∧ Below w.heap.size w w' := by
  obtain ⟨a0, a1, a2, a3, a4, a5, a6, hP⟩ := seven (padR_length l hl)
  have HS := fun W => Lib.hid (size_any l W hl hp)
  have HPL := fun W => Lib.hid (place_any l x W hl hm)
  have hidx : l.idxOf x < l.length := List.idxOf_lt_length_of_mem hm
  have hmod : (l.idxOf x + 1) % l.length < l.length := Nat.mod_lt _ h1
  have hga : ([a0, a1, a2, a3, a4, a5, a6] : List Int).getD ((l.idxOf x + 1) % l.length) 0 = l.getD ((l.idxOf x + 1) % l.length) 0 := by rw [← hP]; exact padR_get l _ hmod
  unfold agp at HS HPL ⊢
  rw [hP] at HS HPL ⊢
  simp only [ints, List.map_cons, List.map_nil] at HS HPL ⊢
  have HSS := Lib.hid HS
  have HPP := Lib.hid HPL
  rw [← hga]
  clear hP hp HS HPL hm hga
  generalize l.length = n at *
  generalize l.idxOf x = s at *
  go_enter Try.func91, Try.ntmps91
  go_wp2_with fail
  obtain ⟨W, hW⟩ : ∃ W, W = w.alloc (.cells #[.int .i64 a0, .int .i64 a1, .int .i64 a2, .int .i64 a3, .int .i64 a4, .int .i64 a5, .int .i64 a6] 52) := ⟨_, rfl⟩
  rw [← hW]
  obtain ⟨k1, k2, k3⟩ := box_world w _ [a0, a1, a2, a3, a4, a5, a6] rfl W hW
  have hcell := k1.cell (i := (s + 1) % n) (by simp; omega)
  obtain ⟨c0, c1, c2, c3, c4, c5, c6⟩ := cells7 k1
  have HB := Lib.hid k2
  clear k1 k2 hW
  generalize hy : ([a0, a1, a2, a3, a4, a5, a6] : List Int).getD ((s + 1) % n) 0 = y at *
  have HY := Lib.hid hy
  clear hy
  have hBW : w.heap.size < W.heap.size := by omega
  generalize hB : w.heap.size = B at *
  have HBB := Lib.hid hB
  have HK3 := Lib.hid k3
  clear k3 hB
  have hmi : ((s : Int) + 1) % (n : Int) < 7 := by
    have e : ((s : Int) + 1) % (n : Int) = (((s + 1) % n : Nat) : Int) := by simp
    rw [e]; omega
  have hmo : 0 ≤ ((s : Int) + 1) % (n : Int) := Int.emod_nonneg _ (by omega)
  have hw1 : IntKind.i64.wrap ((s : Int) + 1) = (s : Int) + 1 := IntWalk.i64_in _ (by omega)
  have htm : Int.tmod ((s : Int) + 1) (n : Int) = ((s : Int) + 1) % (n : Int) := Int.tmod_eq_emod_of_nonneg (by omega)
  have htn : (((s : Int) + 1) % (n : Int)).toNat = (s + 1) % n := by
    have e : ((s : Int) + 1) % (n : Int) = (((s + 1) % n : Nat) : Int) := by simp
    rw [e, Int.toNat_natCast]
  go_region_with (first
    | (go_at_call 97; refine ((HSS.out _).out).mono ?_; rintro e w' ⟨rfl, rfl⟩)
    | (go_at_call 98; refine ((HPP.out _).out).mono ?_; rintro e w' ⟨rfl, rfl⟩))
  all_goals
    clear hw1 htm htn hmi hmo hcell c0 c1 c2 c3 c4 c5 c6
    go_wp2
    go_ret
    exact ⟨by rw [HY.out]; rfl, by rw [HBB.out]; exact ((HB.out.alloc (by omega) _).alloc (by simp; omega) _).drew⟩

/-- The steps from x to y. -/
def stepsI (l : List Int) (x y : Int) : Int := ((l.idxOf y : Int) - (l.idxOf x : Int)) % (l.length : Int)

set_option maxHeartbeats 1000000 in
theorem steps_any (l : List Int) (x y : Int) (w : World) (h1 : 1 ≤ l.length) (hl : l.length ≤ 7) (hp : ∀ x ∈ l, 0 ≤ x) (hm : x ∈ l) (hm' : y ∈ l) :
    Calls Try.prog 58 #[agp l, .int .i64 x, .int .i64 y] w fun e w' => e = .returned (.int .i64 (stepsI l x y)) ∧ Below w.heap.size w w' := by
  obtain ⟨a0, a1, a2, a3, a4, a5, a6, hP⟩ := seven (padR_length l hl)
  have HS := fun W => Lib.hid (size_any l W hl hp)
  have HPX := fun W => Lib.hid (place_any l x W hl hm)
  have HPY := fun W => Lib.hid (place_any l y W hl hm')
  have hidx : l.idxOf x < l.length := List.idxOf_lt_length_of_mem hm
  have hidy : l.idxOf y < l.length := List.idxOf_lt_length_of_mem hm'
  unfold agp at HS HPX HPY ⊢
  unfold stepsI
  rw [hP] at HS HPX HPY ⊢
  simp only [ints, List.map_cons, List.map_nil] at HS HPX HPY ⊢
  have HSS := Lib.hid HS
  have HXX := Lib.hid HPX
  have HYY := Lib.hid HPY
  clear hP hp HS HPX HPY hm hm'
  generalize l.length = n at *
  generalize l.idxOf x = s at *
  generalize l.idxOf y = t at *
  go_enter Try.func58, Try.ntmps58
  go_wp2_with (go_at_call 97; refine ((HSS.out _).out).mono ?_; rintro e w' ⟨rfl, rfl⟩)
  obtain ⟨W0, hW0⟩ : ∃ W, W = w.alloc (.cells #[.int .i64 a0, .int .i64 a1, .int .i64 a2, .int .i64 a3, .int .i64 a4, .int .i64 a5, .int .i64 a6] 52) := ⟨_, rfl⟩
  obtain ⟨W, hW⟩ : ∃ W, W = W0.alloc (.cells #[.int .i64 a0, .int .i64 a1, .int .i64 a2, .int .i64 a3, .int .i64 a4, .int .i64 a5, .int .i64 a6] 52) := ⟨_, rfl⟩
  rw [← hW0, ← hW]
  obtain ⟨k1, k2, k3⟩ := box_world w _ [a0, a1, a2, a3, a4, a5, a6] rfl W0 hW0
  have k4 : Arr W w.heap.size [a0, a1, a2, a3, a4, a5, a6] := by rw [hW]; exact k1.alloc _
  have k5 : W.heap.size = w.heap.size + 2 := by rw [hW]; simp [k3]
  obtain ⟨c0, c1, c2, c3, c4, c5, c6⟩ := cells7 k4
  have HB := Lib.hid (show Below w.heap.size w W by rw [hW]; exact k2.alloc (by omega) _)
  clear k1 k2 k3 k4 hW hW0
  have hBW : w.heap.size < W.heap.size := by omega
  generalize hB : w.heap.size = B at *
  have HBB := Lib.hid hB
  have HK5 := Lib.hid k5
  clear k5 hB
  have hw1 : IntKind.i64.wrap ((t : Int) - (s : Int)) = (t : Int) - (s : Int) := IntWalk.i64_in _ (by omega)
  have hw2 : IntKind.i64.wrap ((t : Int) - (s : Int) + (n : Int)) = (t : Int) - (s : Int) + (n : Int) := IntWalk.i64_in _ (by omega)
  have htm : Int.tmod ((t : Int) - (s : Int) + (n : Int)) (n : Int) = ((t : Int) - (s : Int) + (n : Int)) % (n : Int) := Int.tmod_eq_emod_of_nonneg (by omega)
  go_region_with (first
    | (go_at_call_of 98 (Value.int IntKind.i64 y); refine ((HYY.out _).out).mono ?_; rintro e w' ⟨rfl, rfl⟩)
    | (go_at_call_of 98 (Value.int IntKind.i64 x); refine ((HXX.out _).out).mono ?_; rintro e w' ⟨rfl, rfl⟩))
  all_goals
    clear hw1 hw2 htm c0 c1 c2 c3 c4 c5 c6
    go_wp2
    go_ret
    exact ⟨rfl, by rw [HBB.out]; exact ((HB.out.alloc (by omega) _).alloc (by simp; omega) _).drew⟩
end Go.Proofs.Ytbfdbnminjhocaa

namespace Go.Proofs.Ytbfdbnminjhocaa
open Go.ChangeShapes Go.WideShapes Go.ChangeAt Go.RowKit

def nextR (l : List Int) (x : Int) : Int := if hasB l x then l.getD ((l.idxOf x + 1) % l.length) 0 else 0

set_option maxHeartbeats 1000000 in
theorem nxI_any (A : Option Addr) (n c H : Nat) (l : List Int) (x : Int) (w : World) (h : Rd w H A n l) (hH : H ≤ w.heap.size) (hn : n ≤ 1048576) (hnc : n ≤ c) (hcm : c ≤ 9223372036854775807) :
    Calls Try.prog 46 #[.slice A n c, .int .i64 x] w fun e w' => e = .returned (.tuple #[.int .i64 (nextR l x), .bool (hasB l x)]) ∧ Below w.heap.size w w' := by
  have hread := Lib.hid (readR_any A n c H l w h hH hn hnc hcm)
  by_cases hr : Ring l
  · have hl7 := hr.1.2.1
    obtain ⟨a0, a1, a2, a3, a4, a5, a6, hP⟩ := seven (padR_length l hl7)
    have hrp : ringP l = [a0, a1, a2, a3, a4, a5, a6] := by rw [ringP, if_pos hr, hP]
    have hhas := fun W => Lib.hid (has_any l x W hl7 hr.1.pos)
    have hin : hasB l x = decide (0 ≤ x ∧ x < l.length) := by rw [hasB, ring_yes hr, Bool.true_and]
    rw [← hin] at hhas
    unfold agp at hhas
    rw [hP] at hhas
    rw [hrp, ring_yes hr] at hread
    simp only [ints, List.map_cons, List.map_nil] at hhas hread
    have HH := Lib.hid hhas
    clear hhas hin hrp
    cases ht : hasB l x
    · have hR : nextR l x = 0 := by rw [nextR, if_neg (by simp [ht])]
      rw [hR]
      rw [ht] at HH
      clear hR ht hr hP hl7
      go_enter Try.func46, Try.ntmps46
      go_wp2_with fail
      refine hread.out.mono ?_
      rintro e W1 ⟨rfl, hb1⟩
      have HA := Lib.hid (new_ring W1)
      go_wp2_with (refine store_ring rfl _ _ rfl W1.heap.size zero7 [a0, a1, a2, a3, a4, a5, a6] rfl rfl rfl rfl HA ?_; intro w2 HA2 hg2 hs2; obtain ⟨c0, c1, c2, c3, c4, c5, c6⟩ := cells7 HA2.out; clear hs2)
      have hb2 := Lib.hid ((hb1.alloc hb1.size (.cells #[.int .i64 0, .int .i64 0, .int .i64 0, .int .i64 0, .int .i64 0, .int .i64 0, .int .i64 0] 52)).grown hg2 (by have := hb1.size; simp; omega) (by have := hb1.size; simp; omega))
      clear hg2 hb1
      refine ((HH.out _).out).mono ?_
      rintro e w3 ⟨rfl, hb3⟩
      have hb4 := Lib.hid (hb2.out.trans (hb3.mono hb2.out.size))
      clear hb3 c0 c1 c2 c3 c4 c5 c6
      go_wp2
      go_ret2
      exact ⟨rfl, hb4.out⟩
    · have hy := hasB_yes ht
      have hR : Hid (nextR l x = l.getD ((l.idxOf x + 1) % l.length) 0) := by rw [Hid, nextR, if_pos ht]
      have hcut := fun W => Lib.hid (next_any l x W (by have := hr.1.1; omega) hl7 hr.1.pos hy.2.2.2)
      rw [← hR.out] at hcut
      rw [ht] at HH
      unfold agp at hcut
      rw [hP] at hcut
      have HC := Lib.hid hcut
      clear hR ht hr hP hl7 hcut hy
      generalize nextR l x = C at *
      go_enter Try.func46, Try.ntmps46
      go_wp2_with fail
      refine hread.out.mono ?_
      rintro e W1 ⟨rfl, hb1⟩
      have HA := Lib.hid (new_ring W1)
      go_wp2_with (refine store_ring rfl _ _ rfl W1.heap.size zero7 [a0, a1, a2, a3, a4, a5, a6] rfl rfl rfl rfl HA ?_; intro w2 HA2 hg2 hs2; obtain ⟨c0, c1, c2, c3, c4, c5, c6⟩ := cells7 HA2.out; clear hs2)
      have hb2 := Lib.hid ((hb1.alloc hb1.size (.cells #[.int .i64 0, .int .i64 0, .int .i64 0, .int .i64 0, .int .i64 0, .int .i64 0, .int .i64 0] 52)).grown hg2 (by have := hb1.size; simp; omega) (by have := hb1.size; simp; omega))
      clear hg2 hb1
      refine ((HH.out _).out).mono ?_
      rintro e w3 ⟨rfl, hb3⟩
      have hb4 := Lib.hid (hb2.out.trans (hb3.mono hb2.out.size))
      have HA3 := Lib.hid (HA2.out.below hb3 HA2.out.lt)
      clear hb3 c0 c1 c2 c3 c4 c5 c6
      go_wp2_with (refine load_ring rfl _ rfl W1.heap.size [a0, a1, a2, a3, a4, a5, a6] rfl rfl HA3 ?_)
      refine ((HC.out _).out).mono ?_
      rintro e w4 ⟨rfl, hb5⟩
      have hb6 := Lib.hid (hb4.out.trans (hb5.mono hb4.out.size))
      clear hb5
      go_wp2
      go_ret2
      exact ⟨rfl, hb6.out⟩
  · have ht : hasB l x = false := by rw [hasB, ring_no hr, Bool.false_and]
    have hR : nextR l x = 0 := by rw [nextR, if_neg (by simp [ht])]
    have H7 := Lib.hid (ringP_length l)
    rw [hR, ht]
    rw [ring_no hr] at hread
    clear hR hr ht
    generalize ringP l = P at *
    go_enter Try.func46, Try.ntmps46
    go_wp2_with fail
    refine hread.out.mono ?_
    rintro e W1 ⟨rfl, hb1⟩
    have HA := Lib.hid (new_ring W1)
    go_wp2_with (refine store_ring rfl _ _ rfl W1.heap.size zero7 P rfl H7.out rfl rfl HA ?_; intro w2 HA2 hg2 hs2)
    have hb2 := (hb1.alloc hb1.size (.cells #[.int .i64 0, .int .i64 0, .int .i64 0, .int .i64 0, .int .i64 0, .int .i64 0, .int .i64 0] 52)).grown hg2 (by have := hb1.size; simp; omega) (by have := hb1.size; simp; omega)
    clear hg2 hs2 hb1
    go_ret2
    exact ⟨rfl, hb2⟩
end Go.Proofs.Ytbfdbnminjhocaa

namespace Go.Proofs.Ytbfdbnminjhocaa
open Go.ChangeShapes Go.WideShapes Go.ChangeAt Go.RowKit

/-- Two points of a ring. -/
def hasB2 (l : List Int) (x y : Int) : Bool := hasB l x && hasB l y
def stepsR (l : List Int) (x y : Int) : Int := if hasB2 l x y then stepsI l x y else 0

theorem st_any (A : Option Addr) (n c H : Nat) (l : List Int) (x y : Int) (w : World) (h : Rd w H A n l) (h1 : 1 ≤ n) (hn : n ≤ 7) (hx : x ∈ l) (hy : y ∈ l) :
    Calls Try.prog 96 #[.slice A n c, .int .i64 x, .int .i64 y] w fun e w' => e = .returned (.int .i64 (stepsI l x y)) ∧ w = w' := by
  have hX := fun W hW => Lib.hid (at_any A n c H l x W hW (by omega) hx)
  have hY := fun W hW => Lib.hid (at_any A n c H l y W hW (by omega) hy)
  have HX := Lib.hid hX
  have HY := Lib.hid hY
  have hidx : l.idxOf x < n := by rw [← h.len]; exact List.idxOf_lt_length_of_mem hx
  have hidy : l.idxOf y < n := by rw [← h.len]; exact List.idxOf_lt_length_of_mem hy
  have HL := Lib.hid h.len
  unfold stepsI
  rw [HL.out]
  clear hX hY hx hy
  generalize l.idxOf x = s at *
  generalize l.idxOf y = t at *
  go_enter Try.func96, Try.ntmps96
  go_wp2_with fail
  refine ((HY.out _ h).out).mono ?_
  rintro e w' ⟨rfl, rfl⟩
  go_wp2_with fail
  refine ((HX.out _ h).out).mono ?_
  rintro e w' ⟨rfl, rfl⟩
  go_wp2
  go_ret
  have e : ((t : Int) - (s : Int) + (n : Int)) % (n : Int) = ((t : Int) - (s : Int)) % (n : Int) := Int.add_emod_right ..
  exact ⟨by rw [← e]; rfl, rfl⟩

set_option maxHeartbeats 2000000 in
theorem spI_any (A : Option Addr) (n c H : Nat) (l : List Int) (x y : Int) (w : World) (h : Rd w H A n l) (hH : H ≤ w.heap.size) (hn : n ≤ 1048576) (hnc : n ≤ c) (hcm : c ≤ 9223372036854775807) :
    Calls Try.prog 16 #[.slice A n c, .int .i64 x, .int .i64 y] w fun e w' => e = .returned (.tuple #[.int .i64 (stepsR l x y), .bool (hasB2 l x y)]) ∧ Below w.heap.size w w' := by
  have hread := Lib.hid (readR_any A n c H l w h hH hn hnc hcm)
  by_cases hr : Ring l
  · have hl7 := hr.1.2.1
    obtain ⟨a0, a1, a2, a3, a4, a5, a6, hP⟩ := seven (padR_length l hl7)
    have hrp : ringP l = [a0, a1, a2, a3, a4, a5, a6] := by rw [ringP, if_pos hr, hP]
    have hhx := fun W => Lib.hid (has_any l x W hl7 hr.1.pos)
    have hhy := fun W => Lib.hid (has_any l y W hl7 hr.1.pos)
    have hix : hasB l x = decide (0 ≤ x ∧ x < l.length) := by rw [hasB, ring_yes hr, Bool.true_and]
    have hiy : hasB l y = decide (0 ≤ y ∧ y < l.length) := by rw [hasB, ring_yes hr, Bool.true_and]
    rw [← hix] at hhx
    rw [← hiy] at hhy
    unfold agp at hhx hhy
    rw [hP] at hhx hhy
    rw [hrp, ring_yes hr] at hread
    simp only [ints, List.map_cons, List.map_nil] at hhx hhy hread
    have HX := Lib.hid hhx
    have HY := Lib.hid hhy
    clear hhx hhy hix hiy hrp
    unfold stepsR hasB2
    cases htx : hasB l x
    · rw [htx] at HX
      rw [Bool.false_and, if_neg (by simp)]
      clear htx hr hP hl7 HY
      go_enter Try.func16, Try.ntmps16
      go_wp2_with fail
      refine hread.out.mono ?_
      rintro e W1 ⟨rfl, hb1⟩
      have HA := Lib.hid (new_ring W1)
      go_wp2_with (refine store_ring rfl _ _ rfl W1.heap.size zero7 [a0, a1, a2, a3, a4, a5, a6] rfl rfl rfl rfl HA ?_; intro w2 HA2 hg2 hs2; obtain ⟨c0, c1, c2, c3, c4, c5, c6⟩ := cells7 HA2.out; clear hs2)
      have hb2 := Lib.hid ((hb1.alloc hb1.size (.cells #[.int .i64 0, .int .i64 0, .int .i64 0, .int .i64 0, .int .i64 0, .int .i64 0, .int .i64 0] 52)).grown hg2 (by have := hb1.size; simp; omega) (by have := hb1.size; simp; omega))
      clear hg2 hb1
      refine ((HX.out _).out).mono ?_
      rintro e w3 ⟨rfl, hb3⟩
      have hb4 := Lib.hid (hb2.out.trans (hb3.mono hb2.out.size))
      clear hb3 c0 c1 c2 c3 c4 c5 c6
      go_wp2
      go_ret2
      exact ⟨rfl, hb4.out⟩
    · rw [htx] at HX
      cases hty : hasB l y
      · rw [hty] at HY
        rw [Bool.and_false, if_neg (by simp)]
        clear htx hty hr hP hl7
        go_enter Try.func16, Try.ntmps16
        go_wp2_with fail
        refine hread.out.mono ?_
        rintro e W1 ⟨rfl, hb1⟩
        have HA := Lib.hid (new_ring W1)
        go_wp2_with (refine store_ring rfl _ _ rfl W1.heap.size zero7 [a0, a1, a2, a3, a4, a5, a6] rfl rfl rfl rfl HA ?_; intro w2 HA2 hg2 hs2; obtain ⟨c0, c1, c2, c3, c4, c5, c6⟩ := cells7 HA2.out; clear hs2)
        have hb2 := Lib.hid ((hb1.alloc hb1.size (.cells #[.int .i64 0, .int .i64 0, .int .i64 0, .int .i64 0, .int .i64 0, .int .i64 0, .int .i64 0] 52)).grown hg2 (by have := hb1.size; simp; omega) (by have := hb1.size; simp; omega))
        clear hg2 hb1
        refine ((HX.out _).out).mono ?_
        rintro e w3 ⟨rfl, hb3⟩
        have hb4 := Lib.hid (hb2.out.trans (hb3.mono hb2.out.size))
        have HA3 := Lib.hid (HA2.out.below hb3 HA2.out.lt)
        obtain ⟨d0, d1, d2, d3, d4, d5, d6⟩ := cells7 HA3.out
        clear hb3 c0 c1 c2 c3 c4 c5 c6
        go_wp2_with fail
        refine ((HY.out _).out).mono ?_
        rintro e w4 ⟨rfl, hb5⟩
        have hb6 := Lib.hid (hb4.out.trans (hb5.mono hb4.out.size))
        clear hb5 d0 d1 d2 d3 d4 d5 d6
        go_wp2
        go_ret2
        exact ⟨rfl, hb6.out⟩
      · rw [hty] at HY
        have hcut := fun W => Lib.hid (steps_any l x y W (by have := hr.1.1; omega) hl7 hr.1.pos (hasB_yes htx).2.2.2 (hasB_yes hty).2.2.2)
        rw [Bool.and_true, if_pos rfl]
        unfold agp at hcut
        rw [hP] at hcut
        have HC := Lib.hid hcut
        clear htx hty hr hP hl7 hcut
        generalize stepsI l x y = r at *
        go_enter Try.func16, Try.ntmps16
        go_wp2_with fail
        refine hread.out.mono ?_
        rintro e W1 ⟨rfl, hb1⟩
        have HA := Lib.hid (new_ring W1)
        go_wp2_with (refine store_ring rfl _ _ rfl W1.heap.size zero7 [a0, a1, a2, a3, a4, a5, a6] rfl rfl rfl rfl HA ?_; intro w2 HA2 hg2 hs2; obtain ⟨c0, c1, c2, c3, c4, c5, c6⟩ := cells7 HA2.out; clear hs2)
        have hb2 := Lib.hid ((hb1.alloc hb1.size (.cells #[.int .i64 0, .int .i64 0, .int .i64 0, .int .i64 0, .int .i64 0, .int .i64 0, .int .i64 0] 52)).grown hg2 (by have := hb1.size; simp; omega) (by have := hb1.size; simp; omega))
        clear hg2 hb1
        refine ((HX.out _).out).mono ?_
        rintro e w3 ⟨rfl, hb3⟩
        have hb4 := Lib.hid (hb2.out.trans (hb3.mono hb2.out.size))
        have HA3 := Lib.hid (HA2.out.below hb3 HA2.out.lt)
        obtain ⟨d0, d1, d2, d3, d4, d5, d6⟩ := cells7 HA3.out
        clear hb3 c0 c1 c2 c3 c4 c5 c6
        go_wp2_with fail
        refine ((HY.out _).out).mono ?_
        rintro e w4 ⟨rfl, hb5⟩
        have hb6 := Lib.hid (hb4.out.trans (hb5.mono hb4.out.size))
        have HA4 := Lib.hid (HA3.out.below hb5 HA3.out.lt)
        clear hb5 d0 d1 d2 d3 d4 d5 d6
        go_wp2_with (refine load_ring rfl _ rfl W1.heap.size [a0, a1, a2, a3, a4, a5, a6] rfl rfl HA4 ?_)
        refine ((HC.out _).out).mono ?_
        rintro e w5 ⟨rfl, hb7⟩
        have hb8 := Lib.hid (hb6.out.trans (hb7.mono hb6.out.size))
        clear hb7
        go_wp2
        go_ret2
        exact ⟨rfl, hb8.out⟩
  · have ht : hasB2 l x y = false := by rw [hasB2, hasB, ring_no hr, Bool.false_and, Bool.false_and]
    have hR : stepsR l x y = 0 := by rw [stepsR, if_neg (by simp [ht])]
    have H7 := Lib.hid (ringP_length l)
    rw [hR, ht]
    rw [ring_no hr] at hread
    clear hR hr ht
    generalize ringP l = P at *
    go_enter Try.func16, Try.ntmps16
    go_wp2_with fail
    refine hread.out.mono ?_
    rintro e W1 ⟨rfl, hb1⟩
    have HA := Lib.hid (new_ring W1)
    go_wp2_with (refine store_ring rfl _ _ rfl W1.heap.size zero7 P rfl H7.out rfl rfl HA ?_; intro w2 HA2 hg2 hs2)
    have hb2 := (hb1.alloc hb1.size (.cells #[.int .i64 0, .int .i64 0, .int .i64 0, .int .i64 0, .int .i64 0, .int .i64 0, .int .i64 0] 52)).grown hg2 (by have := hb1.size; simp; omega) (by have := hb1.size; simp; omega)
    clear hg2 hs2 hb1
    go_ret2
    exact ⟨rfl, hb2⟩
end Go.Proofs.Ytbfdbnminjhocaa

namespace Go.Proofs.Ytbfdbnminjhocaa
open Go.ChangeShapes Go.WideShapes Go.ChangeAt Go.RowKit

def ofR (l : List Int) : List Int := if Tell l then cutL l 0 else []
theorem ofR_length (l : List Int) : (ofR l).length ≤ 7 := by
  unfold ofR
  split
  · rename_i h; rw [cutL_length]; exact h.2.1
  · simp

theorem readP_length (l : List Int) : (readP l).length = 7 := by
  unfold readP
  split
  · rename_i h; exact padR_length l h.2.1
  · rfl

end Go.Proofs.Ytbfdbnminjhocaa

namespace Go.Proofs.Ytbfdbnminjhocaa
open Go.ChangeShapes Go.WideShapes Go.ChangeAt Go.RowKit

/-- The list gone round the other way from its first point. -/
def backL (l : List Int) : List Int := (List.range l.length).map fun i => l.getD ((l.length - i) % l.length) 0
@[simp] theorem backL_length (l : List Int) : (backL l).length = l.length := by simp [backL]
theorem backL_get (l : List Int) (k : Nat) (hk : k < l.length) : (backL l).getD k 0 = l.getD ((l.length - k) % l.length) 0 := by
  simp [backL, List.getD, hk]

/-- The array half gone back. -/
def backK (l : List Int) (k : Nat) : List Int := (backL l).take k ++ (padR l).drop k
theorem backK_length (l : List Int) (k : Nat) (hk : k ≤ l.length) (h7 : l.length ≤ 7) : (backK l k).length = 7 := by
  have := padR_length l h7
  simp [backK]; omega
theorem backK_step (l : List Int) (k : Nat) (hk : k < l.length) (h7 : l.length ≤ 7) : (backK l k).set k (l.getD ((l.length - k) % l.length) 0) = backK l (k + 1) := by
  rw [← backL_get l k hk]
  unfold backK
  have hl : ((backL l).take k).length = k := by simp; omega
  have hp := padR_length l h7
  rw [List.set_append_right _ _ (by omega), hl, Nat.sub_self, List.drop_eq_getElem_cons (by omega : k < (padR l).length), List.set_cons_zero]
  rw [List.take_succ_eq_append_getElem (by simpa using hk), List.append_assoc]
  simp [List.getD, hk]
theorem backK_full (l : List Int) : backK l l.length = padR (backL l) := by
  unfold backK padR
  rw [List.take_of_length_le (by simp), List.drop_append, backL_length]
  simp
theorem backK_one (l : List Int) (h1 : 1 ≤ l.length) (h7 : l.length ≤ 7) : backK l 1 = padR l := by
  have hp := padR_length l h7
  have h0 : (backK l 0) = padR l := by simp [backK]
  have hs := backK_step l 0 (by omega) h7
  rw [h0, Nat.sub_zero, Nat.mod_self] at hs
  rw [← hs]
  apply ext_getD _ _ (by simp)
  intro k hk
  by_cases e : k = 0
  · subst e
    have := padR_get l 0 (by omega)
    simp only [List.getD_eq_getElem?_getD, List.getElem?_set, if_true] at this ⊢
    rw [if_pos (by omega)]
    exact this.symm
  · simp [List.getD_eq_getElem?_getD, Ne.symm e]

/-- The world of back before its loop: the box, the room for the result, a callee's box, the copy. -/
theorem back_world (w : World) (c z : Array Value) (P Z : List Int) (hc : c = (ints P).toArray) (hz : z = (ints Z).toArray) (W : World)
    (hW : W = (((w.alloc (.cells c 52)).alloc (.cells z 52)).alloc (.cells c 52)).alloc (.cells c 52)) :
    Arr W w.heap.size P ∧ Arr W (w.heap.size + 1) Z ∧ Arr W (w.heap.size + 1 + 1 + 1) P ∧ Below w.heap.size w W ∧ W.heap.size = w.heap.size + 4 := by
  subst hc; subst hz; subst hW
  refine ⟨?_, ?_, ?_, ?_, by simp⟩
  · have h : Arr (w.alloc (.cells (ints P).toArray 52)) w.heap.size P := heap_alloc_new w _
    exact ((h.alloc _).alloc _).alloc _
  · have h : Arr ((w.alloc (.cells (ints P).toArray 52)).alloc (.cells (ints Z).toArray 52)) (w.heap.size + 1) Z := heap_alloc2_new w _ _
    exact (h.alloc _).alloc _
  · have := heap_alloc_new (((w.alloc (.cells (ints P).toArray 52)).alloc (.cells (ints Z).toArray 52)).alloc (.cells (ints P).toArray 52)) (.cells (ints P).toArray 52)
    simp only [World.alloc, Array.size_push] at this ⊢
    exact this
  · exact ((((Below.refl _ _).alloc (Nat.le_refl _) _).alloc (by simp) _).alloc (by simp; omega) _).alloc (by simp; omega) _

end Go.Proofs.Ytbfdbnminjhocaa

namespace Go.Proofs.Ytbfdbnminjhocaa
open Go.ChangeShapes Go.WideShapes Go.ChangeAt Go.RowKit

def backR (l : List Int) : List Int := if Ring l then backL l else []
theorem backR_length (l : List Int) : (backR l).length ≤ 7 := by
  unfold backR
  split
  · rename_i h; rw [backL_length]; exact h.1.2.1
  · simp
theorem backL_pos (l : List Int) (h : Tell l) : ∀ x ∈ backL l, 0 ≤ x := fun x hx => by
  obtain ⟨i, _, rfl⟩ := List.mem_map.1 hx
  exact h.pos _ (getD_mem l _ (Nat.mod_lt _ (by have := h.1; omega)))

end Go.Proofs.Ytbfdbnminjhocaa

namespace Go.Proofs.Ytbfdbnminjhocaa
open Go.ChangeShapes Go.WideShapes Go.ChangeAt Go.RowKit

/-- How many points between the places i and k are less than the one at i. -/
def cnt (l : List Int) (i : Nat) : Nat → Nat
  | 0 => 0
  | k + 1 => cnt l i k + if i < k ∧ l.getD k 0 < l.getD i 0 then 1 else 0
theorem cnt_le (l : List Int) (i k : Nat) : cnt l i k ≤ k := by
  induction k with
  | zero => simp [cnt]
  | succ k ih => rw [cnt]; split <;> omega
theorem cnt_start (l : List Int) (i : Nat) : ∀ k, k ≤ i + 1 → cnt l i k = 0
  | 0, _ => rfl
  | k + 1, h => by rw [cnt, cnt_start l i k (by omega), if_neg (by omega)]
theorem cnt_zero (l : List Int) (h0 : l.getD 0 0 = 0) (h : ∀ x ∈ l, 0 ≤ x) : ∀ k, k ≤ l.length → cnt l 0 k = 0
  | 0, _ => rfl
  | k + 1, hk => by
    rw [cnt, cnt_zero l h0 h k (by omega), if_neg]
    rintro ⟨_, hlt⟩
    have := h _ (getD_mem l k (by omega))
    omega
def numP (l : List Int) : Nat → Int
  | 0 => 0
  | m + 1 => numP l m + (cnt l m l.length : Int) * facN (l.length - 1 - m)
theorem facN_bd (m : Nat) : 1 ≤ facN m ∧ facN m ≤ 5040 := by
  match m with
  | 0 | 1 | 2 | 3 | 4 | 5 | 6 => simp [facN]
  | _ + 7 => simp [facN]
theorem prod_bd (c : Nat) (f : Int) (hc : c ≤ 7) (hf : 1 ≤ f ∧ f ≤ 5040) : 0 ≤ (c : Int) * f ∧ (c : Int) * f ≤ 35280 := by
  obtain rfl | rfl | rfl | rfl | rfl | rfl | rfl | rfl : c = 0 ∨ c = 1 ∨ c = 2 ∨ c = 3 ∨ c = 4 ∨ c = 5 ∨ c = 6 ∨ c = 7 := by omega
  all_goals omega
theorem numP_bd (l : List Int) (hl : l.length ≤ 7) : ∀ m, m ≤ 7 → 0 ≤ numP l m ∧ numP l m ≤ 35280 * m
  | 0, _ => by simp [numP]
  | m + 1, h => by
    have ih := numP_bd l hl m (by omega)
    have hb := prod_bd (cnt l m l.length) (facN (l.length - 1 - m)) (by have := cnt_le l m l.length; omega) (facN_bd _)
    rw [numP]
    push_cast
    omega

theorem facS_nat (m : Nat) (k : Int) (w : World) (hk : k = m) (hm : m ≤ 6) :
    Calls Try.prog 82 #[.int .i64 k] w fun e w' => e = .returned (.int .i64 (facN m)) ∧ w = w' := by
  subst hk
  have := facS_any (m : Int) w (by omega) (by omega)
  rwa [Int.toNat_natCast] at this
theorem facI_nat (m : Nat) (k : Int) (w : World) (hk : k = m) (hm : m ≤ 6) :
    Calls Try.prog 73 #[.int .i64 k] w fun e w' => e = .returned (.int .i64 (facN m)) ∧ w = w' := by
  subst hk
  have := facI_any (m : Int) w (by omega) (by omega)
  rwa [Int.toNat_natCast] at this

end Go.Proofs.Ytbfdbnminjhocaa

namespace Go.Proofs.Ytbfdbnminjhocaa
open Go.ChangeShapes Go.WideShapes Go.ChangeAt Go.RowKit

def numR (l : List Int) : Int := if Ring l then numP l l.length else 0

end Go.Proofs.Ytbfdbnminjhocaa
