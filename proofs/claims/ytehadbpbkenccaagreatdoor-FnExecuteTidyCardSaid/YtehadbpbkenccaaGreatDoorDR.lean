/- Several texts as one: Has CutT Next NextT Num Count ByM ByS Draw0 Draw2 DrawO DrawR Rw Draw6 TmY Draw23 Draw24. -/
import Derived.Test.YtehadbpbkenccaaGreatDoorMA
import Derived.IntWalk
import Derived.Deep.RegionLaw
import Derived.Maps.AppendAt
import Derived.Laws.BitsAllLaws
import Derived.Sort.WalkB12
import Derived.Lib.SlicesMore
import Derived.RegionTactic
import Derived.Deep.LoopGhost
import Derived.Laws.IdiomStrings
import Derived.Laws.DeepStrings4
import Derived.Laws.Strings3
import Derived.Deep.RegionWith
namespace Go.Proofs.YtehadbpbkenccaaGreatDoor
open Go.ChangeShapes Go.WideShapes Go.ChangeAt Go.RowKit

theorem has_any (l : List Int) (x : Int) (w : World) (hl : l.length ≤ 7) (hp : ∀ x ∈ l, 0 ≤ x) :
    Calls Tryz.prog 159 #[agp l, .int .i64 x] w fun e w' => e = .returned (.bool (decide (0 ≤ x ∧ x < l.length))) ∧ Below w.heap.size w w' := by
  obtain ⟨a0, a1, a2, a3, a4, a5, a6, hP⟩ := seven (padR_length l hl)
  have HS := fun W => Lib.hid (size_any l W hl hp)
  unfold agp at HS ⊢
  rw [hP] at HS ⊢
  simp only [ints, List.map_cons, List.map_nil] at HS ⊢
  have HSS := Lib.hid HS
  clear hP hp HS hl
  generalize l.length = n at *
  have hb1 := Lib.hid ((Below.refl w.heap.size w).alloc (Nat.le_refl _) (.cells #[.int .i64 a0, .int .i64 a1, .int .i64 a2, .int .i64 a3, .int .i64 a4, .int .i64 a5, .int .i64 a6] 31))
  have hb2 := Lib.hid (hb1.out.alloc (by simp) (.cells #[.int .i64 a0, .int .i64 a1, .int .i64 a2, .int .i64 a3, .int .i64 a4, .int .i64 a5, .int .i64 a6] 31))
  by_cases h0 : 0 ≤ x
  · by_cases h1 : x < (n : Int)
    all_goals
      go_enter Tryz.func159, Tryz.ntmps159
      go_wp2_with (go_at_call 89; refine ((HSS.out _).out).mono ?_; rintro e w' ⟨rfl, rfl⟩)
      go_ret
      exact ⟨by simp_all, hb2.out⟩
  · have hd : decide (0 ≤ x ∧ x < (n : Int)) = false := by simp; omega
    rw [hd]
    clear hd
    go_enter Tryz.func159, Tryz.ntmps159
    go_wp2_with fail
    go_ret
    exact ⟨rfl, hb1.out⟩

/-- A ring and a point of it. -/
def hasB (l : List Int) (x : Int) : Bool := ringB l && decide (0 ≤ x ∧ x < l.length)

theorem hasB_yes {l : List Int} {x : Int} (h : hasB l x = true) : Ring l ∧ 0 ≤ x ∧ x < l.length ∧ x ∈ l := by
  simp only [hasB, ringB, Bool.and_eq_true, decide_eq_true_eq] at h
  exact ⟨h.1, h.2.1, h.2.2, h.1.1.has h.2.1 h.2.2⟩
end Go.Proofs.YtehadbpbkenccaaGreatDoor

namespace Go.Proofs.YtehadbpbkenccaaGreatDoor
open Go.ChangeShapes Go.WideShapes Go.ChangeAt Go.RowKit

def cutR (l : List Int) (x : Int) : List Int := if hasB l x then cutL l x else []
theorem cutR_length (l : List Int) (x : Int) : (cutR l x).length ≤ 7 := by
  unfold cutR
  split
  · rename_i h; rw [cutL_length]; exact (hasB_yes h).1.1.2.1
  · simp
theorem cutL_pos (l : List Int) (x : Int) (h : Tell l) : ∀ y ∈ cutL l x, 0 ≤ y := fun y hy => by
  obtain ⟨i, _, rfl⟩ := List.mem_map.1 hy
  exact h.pos _ (getD_mem l _ (Nat.mod_lt _ (by have := h.1; omega)))

set_option maxHeartbeats 1000000 in
theorem ctI_any (A : Option Addr) (n c H : Nat) (l : List Int) (x : Int) (w : World) (h : Rd w H A n l) (hH : H ≤ w.heap.size) (hn : n ≤ 1048576) (hnc : n ≤ c) (hcm : c ≤ 9223372036854775807) :
    Calls Tryz.prog 110 #[.slice A n c, .int .i64 x] w fun e w' => ∃ v, e = .returned (.tuple #[v, .bool (hasB l x)]) ∧ Own w' w.heap.size v (cutR l x) ∧ Below w.heap.size w w' := by
  have hread := Lib.hid (readR_any A n c H l w h hH hn hnc hcm)
  by_cases hr : Ring l
  · have hl7 := hr.1.2.1
    obtain ⟨a0, a1, a2, a3, a4, a5, a6, hP⟩ := seven (padR_length l hl7)
    have hrp : ringP l = [a0, a1, a2, a3, a4, a5, a6] := by rw [ringP, if_pos hr, hP]
    have hhas := fun W => Lib.hid (has_any l x W hl7 hr.1.pos)
    have hin : hasB l x = decide (0 ≤ x ∧ x < l.length) := by rw [hasB, ring_yes hr, Bool.true_and]
    rw [← hin] at hhas
    unfold agp at hhas
    rw [hP] at hhas
    rw [hrp, ring_yes hr] at hread
    simp only [ints, List.map_cons, List.map_nil] at hhas hread
    have HH := Lib.hid hhas
    clear hhas hin hrp
    cases ht : hasB l x
    · have hR : cutR l x = [] := by rw [cutR, if_neg (by simp [ht])]
      rw [hR]
      rw [ht] at HH
      clear hR ht hr hP hl7
      go_enter Tryz.func110, Tryz.ntmps110
      go_wp2_with fail
      refine hread.out.mono ?_
      rintro e W1 ⟨rfl, hb1⟩
      have HA := Lib.hid (new_ring W1)
      go_wp2_with (refine store_ring rfl _ _ rfl W1.heap.size zero7 [a0, a1, a2, a3, a4, a5, a6] rfl rfl rfl rfl HA ?_; intro w2 HA2 hg2 hs2; obtain ⟨c0, c1, c2, c3, c4, c5, c6⟩ := cells7 HA2.out; clear hs2)
      have hb2 := Lib.hid ((hb1.alloc hb1.size (.cells #[.int .i64 0, .int .i64 0, .int .i64 0, .int .i64 0, .int .i64 0, .int .i64 0, .int .i64 0] 31)).grown hg2 (by have := hb1.size; simp; omega) (by have := hb1.size; simp; omega))
      clear hg2 hb1
      refine ((HH.out _).out).mono ?_
      rintro e w3 ⟨rfl, hb3⟩
      have hb4 := Lib.hid (hb2.out.trans (hb3.mono hb2.out.size))
      clear hb3 c0 c1 c2 c3 c4 c5 c6
      go_wp2
      go_ret2
      exact ⟨_, rfl, World.ownsRow_nil _ _ _ _, hb4.out⟩
    · have hy := hasB_yes ht
      have hR : Hid (cutR l x = cutL l x) := by rw [Hid, cutR, if_pos ht]
      have hcut := fun W => Lib.hid (cut_any l x W (by have := hr.1.1; omega) hl7 hr.1.pos hy.2.2.2)
      have hlist := fun W => Lib.hid (list_any (cutL l x) W (by have := hr.1.1; rw [cutL_length]; omega) (by rw [cutL_length]; exact hl7) (cutL_pos l x hr.1))
      rw [hR.out]
      rw [ht] at HH
      unfold agp at hcut hlist
      rw [hP] at hcut
      have HC := Lib.hid hcut
      have HLI := Lib.hid hlist
      clear hR ht hr hP hl7 hcut hlist hy
      generalize cutL l x = C at *
      generalize padR C = Q at *
      go_enter Tryz.func110, Tryz.ntmps110
      go_wp2_with fail
      refine hread.out.mono ?_
      rintro e W1 ⟨rfl, hb1⟩
      have HA := Lib.hid (new_ring W1)
      go_wp2_with (refine store_ring rfl _ _ rfl W1.heap.size zero7 [a0, a1, a2, a3, a4, a5, a6] rfl rfl rfl rfl HA ?_; intro w2 HA2 hg2 hs2; obtain ⟨c0, c1, c2, c3, c4, c5, c6⟩ := cells7 HA2.out; clear hs2)
      have hb2 := Lib.hid ((hb1.alloc hb1.size (.cells #[.int .i64 0, .int .i64 0, .int .i64 0, .int .i64 0, .int .i64 0, .int .i64 0, .int .i64 0] 31)).grown hg2 (by have := hb1.size; simp; omega) (by have := hb1.size; simp; omega))
      clear hg2 hb1
      refine ((HH.out _).out).mono ?_
      rintro e w3 ⟨rfl, hb3⟩
      have hb4 := Lib.hid (hb2.out.trans (hb3.mono hb2.out.size))
      have HA3 := Lib.hid (HA2.out.below hb3 HA2.out.lt)
      clear hb3 c0 c1 c2 c3 c4 c5 c6
      go_wp2_with (refine load_ring rfl _ rfl W1.heap.size [a0, a1, a2, a3, a4, a5, a6] rfl rfl HA3 ?_)
      refine ((HC.out _).out).mono ?_
      rintro e w4 ⟨rfl, hb5⟩
      have hb6 := Lib.hid (hb4.out.trans (hb5.mono hb4.out.size))
      clear hb5
      go_wp2_with fail
      refine ((HLI.out _).out).mono ?_
      rintro e w5 ⟨v, rfl, ho, hb7⟩
      have HO := Lib.hid (own_less ho hb6.out.size)
      have hb8 := Lib.hid (hb6.out.trans (hb7.mono hb6.out.size))
      clear ho hb7
      go_wp2
      go_ret2
      exact ⟨_, rfl, HO.out, hb8.out⟩
  · have ht : hasB l x = false := by rw [hasB, ring_no hr, Bool.false_and]
    have hR : cutR l x = [] := by rw [cutR, if_neg (by simp [ht])]
    have H7 := Lib.hid (ringP_length l)
    rw [hR, ht]
    rw [ring_no hr] at hread
    clear hR hr ht
    generalize ringP l = P at *
    go_enter Tryz.func110, Tryz.ntmps110
    go_wp2_with fail
    refine hread.out.mono ?_
    rintro e W1 ⟨rfl, hb1⟩
    have HA := Lib.hid (new_ring W1)
    go_wp2_with (refine store_ring rfl _ _ rfl W1.heap.size zero7 P rfl H7.out rfl rfl HA ?_; intro w2 HA2 hg2 hs2)
    have hb2 := (hb1.alloc hb1.size (.cells #[.int .i64 0, .int .i64 0, .int .i64 0, .int .i64 0, .int .i64 0, .int .i64 0, .int .i64 0] 31)).grown hg2 (by have := hb1.size; simp; omega) (by have := hb1.size; simp; omega)
    clear hg2 hs2 hb1
    go_ret2
    exact ⟨_, rfl, World.ownsRow_nil _ _ _ _, hb2⟩
end Go.Proofs.YtehadbpbkenccaaGreatDoor

namespace Go.Proofs.YtehadbpbkenccaaGreatDoor
open Go.ChangeShapes Go.WideShapes Go.ChangeAt Go.RowKit

theorem box_world (w : World) (c : Array Value) (P : List Int) (hc : c = (ints P).toArray) (W : World) (hW : W = w.alloc (.cells c 31)) :
    Arr W w.heap.size P ∧ Below w.heap.size w W ∧ W.heap.size = w.heap.size + 1 := by
  subst hc; subst hW
  exact ⟨heap_alloc_new w _, (Below.refl _ _).alloc (Nat.le_refl _) _, by simp⟩

set_option maxHeartbeats 1000000 in
theorem next_any (l : List Int) (x : Int) (w : World) (h1 : 1 ≤ l.length) (hl : l.length ≤ 7) (hp : ∀ x ∈ l, 0 ≤ x) (hm : x ∈ l) :
    Calls Tryz.prog 167 #[agp l, .int .i64 x] w fun e w' => e = .returned (.int .i64 (l.getD ((l.idxOf x + 1) % l.length) 0)) ∧ Below w.heap.size w w' := by
  obtain ⟨a0, a1, a2, a3, a4, a5, a6, hP⟩ := seven (padR_length l hl)
  have HS := fun W => Lib.hid (size_any l W hl hp)
  have HPL := fun W => Lib.hid (place_any l x W hl hm)
  have hidx : l.idxOf x < l.length := List.idxOf_lt_length_of_mem hm
  have hmod : (l.idxOf x + 1) % l.length < l.length := Nat.mod_lt _ h1
  have hga : ([a0, a1, a2, a3, a4, a5, a6] : List Int).getD ((l.idxOf x + 1) % l.length) 0 = l.getD ((l.idxOf x + 1) % l.length) 0 := by rw [← hP]; exact padR_get l _ hmod
  unfold agp at HS HPL ⊢
  rw [hP] at HS HPL ⊢
  simp only [ints, List.map_cons, List.map_nil] at HS HPL ⊢
  have HSS := Lib.hid HS
  have HPP := Lib.hid HPL
  rw [← hga]
  clear hP hp HS HPL hm hga
  generalize l.length = n at *
  generalize l.idxOf x = s at *
  go_enter Tryz.func167, Tryz.ntmps167
  go_wp2_with fail
  obtain ⟨W, hW⟩ : ∃ W, W = w.alloc (.cells #[.int .i64 a0, .int .i64 a1, .int .i64 a2, .int .i64 a3, .int .i64 a4, .int .i64 a5, .int .i64 a6] 31) := ⟨_, rfl⟩
  rw [← hW]
  obtain ⟨k1, k2, k3⟩ := box_world w _ [a0, a1, a2, a3, a4, a5, a6] rfl W hW
  have hcell := k1.cell (i := (s + 1) % n) (by simp; omega)
  obtain ⟨c0, c1, c2, c3, c4, c5, c6⟩ := cells7 k1
  have HB := Lib.hid k2
  clear k1 k2 hW
  generalize hy : ([a0, a1, a2, a3, a4, a5, a6] : List Int).getD ((s + 1) % n) 0 = y at *
  have HY := Lib.hid hy
  clear hy
  have hBW : w.heap.size < W.heap.size := by omega
  generalize hB : w.heap.size = B at *
  have HBB := Lib.hid hB
  have HK3 := Lib.hid k3
  clear k3 hB
  have hmi : ((s : Int) + 1) % (n : Int) < 7 := by
    have e : ((s : Int) + 1) % (n : Int) = (((s + 1) % n : Nat) : Int) := by simp
    rw [e]; omega
  have hmo : 0 ≤ ((s : Int) + 1) % (n : Int) := Int.emod_nonneg _ (by omega)
  have hw1 : IntKind.i64.wrap ((s : Int) + 1) = (s : Int) + 1 := IntWalk.i64_in _ (by omega)
  have htm : Int.tmod ((s : Int) + 1) (n : Int) = ((s : Int) + 1) % (n : Int) := Int.tmod_eq_emod_of_nonneg (by omega)
  have htn : (((s : Int) + 1) % (n : Int)).toNat = (s + 1) % n := by
    have e : ((s : Int) + 1) % (n : Int) = (((s + 1) % n : Nat) : Int) := by simp
    rw [e, Int.toNat_natCast]
  go_region_with (first
    | (go_at_call 89; refine ((HSS.out _).out).mono ?_; rintro e w' ⟨rfl, rfl⟩)
    | (go_at_call 90; refine ((HPP.out _).out).mono ?_; rintro e w' ⟨rfl, rfl⟩))
  all_goals
    clear hw1 htm htn hmi hmo hcell c0 c1 c2 c3 c4 c5 c6
    go_wp2
    go_ret
    exact ⟨by rw [HY.out]; rfl, by rw [HBB.out]; exact ((HB.out.alloc (by omega) _).alloc (by simp; omega) _).drew⟩

/-- The steps from x to y. -/
def stepsI (l : List Int) (x y : Int) : Int := ((l.idxOf y : Int) - (l.idxOf x : Int)) % (l.length : Int)

set_option maxHeartbeats 1000000 in
theorem steps_any (l : List Int) (x y : Int) (w : World) (h1 : 1 ≤ l.length) (hl : l.length ≤ 7) (hp : ∀ x ∈ l, 0 ≤ x) (hm : x ∈ l) (hm' : y ∈ l) :
    Calls Tryz.prog 168 #[agp l, .int .i64 x, .int .i64 y] w fun e w' => e = .returned (.int .i64 (stepsI l x y)) ∧ Below w.heap.size w w' := by
  obtain ⟨a0, a1, a2, a3, a4, a5, a6, hP⟩ := seven (padR_length l hl)
  have HS := fun W => Lib.hid (size_any l W hl hp)
  have HPX := fun W => Lib.hid (place_any l x W hl hm)
  have HPY := fun W => Lib.hid (place_any l y W hl hm')
  have hidx : l.idxOf x < l.length := List.idxOf_lt_length_of_mem hm
  have hidy : l.idxOf y < l.length := List.idxOf_lt_length_of_mem hm'
  unfold agp at HS HPX HPY ⊢
  unfold stepsI
  rw [hP] at HS HPX HPY ⊢
  simp only [ints, List.map_cons, List.map_nil] at HS HPX HPY ⊢
  have HSS := Lib.hid HS
  have HXX := Lib.hid HPX
  have HYY := Lib.hid HPY
  clear hP hp HS HPX HPY hm hm'
  generalize l.length = n at *
  generalize l.idxOf x = s at *
  generalize l.idxOf y = t at *
  go_enter Tryz.func168, Tryz.ntmps168
  go_wp2_with (go_at_call 89; refine ((HSS.out _).out).mono ?_; rintro e w' ⟨rfl, rfl⟩)
  obtain ⟨W0, hW0⟩ : ∃ W, W = w.alloc (.cells #[.int .i64 a0, .int .i64 a1, .int .i64 a2, .int .i64 a3, .int .i64 a4, .int .i64 a5, .int .i64 a6] 31) := ⟨_, rfl⟩
  obtain ⟨W, hW⟩ : ∃ W, W = W0.alloc (.cells #[.int .i64 a0, .int .i64 a1, .int .i64 a2, .int .i64 a3, .int .i64 a4, .int .i64 a5, .int .i64 a6] 31) := ⟨_, rfl⟩
  rw [← hW0, ← hW]
  obtain ⟨k1, k2, k3⟩ := box_world w _ [a0, a1, a2, a3, a4, a5, a6] rfl W0 hW0
  have k4 : Arr W w.heap.size [a0, a1, a2, a3, a4, a5, a6] := by rw [hW]; exact k1.alloc _
  have k5 : W.heap.size = w.heap.size + 2 := by rw [hW]; simp [k3]
  obtain ⟨c0, c1, c2, c3, c4, c5, c6⟩ := cells7 k4
  have HB := Lib.hid (show Below w.heap.size w W by rw [hW]; exact k2.alloc (by omega) _)
  clear k1 k2 k3 k4 hW hW0
  have hBW : w.heap.size < W.heap.size := by omega
  generalize hB : w.heap.size = B at *
  have HBB := Lib.hid hB
  have HK5 := Lib.hid k5
  clear k5 hB
  have hw1 : IntKind.i64.wrap ((t : Int) - (s : Int)) = (t : Int) - (s : Int) := IntWalk.i64_in _ (by omega)
  have hw2 : IntKind.i64.wrap ((t : Int) - (s : Int) + (n : Int)) = (t : Int) - (s : Int) + (n : Int) := IntWalk.i64_in _ (by omega)
  have htm : Int.tmod ((t : Int) - (s : Int) + (n : Int)) (n : Int) = ((t : Int) - (s : Int) + (n : Int)) % (n : Int) := Int.tmod_eq_emod_of_nonneg (by omega)
  go_region_with (first
    | (go_at_call_of 90 (Value.int IntKind.i64 y); refine ((HYY.out _).out).mono ?_; rintro e w' ⟨rfl, rfl⟩)
    | (go_at_call_of 90 (Value.int IntKind.i64 x); refine ((HXX.out _).out).mono ?_; rintro e w' ⟨rfl, rfl⟩))
  all_goals
    clear hw1 hw2 htm c0 c1 c2 c3 c4 c5 c6
    go_wp2
    go_ret
    exact ⟨rfl, by rw [HBB.out]; exact ((HB.out.alloc (by omega) _).alloc (by simp; omega) _).drew⟩
end Go.Proofs.YtehadbpbkenccaaGreatDoor

namespace Go.Proofs.YtehadbpbkenccaaGreatDoor
open Go.ChangeShapes Go.WideShapes Go.ChangeAt Go.RowKit

def nextR (l : List Int) (x : Int) : Int := if hasB l x then l.getD ((l.idxOf x + 1) % l.length) 0 else 0

set_option maxHeartbeats 1000000 in
theorem nxI_any (A : Option Addr) (n c H : Nat) (l : List Int) (x : Int) (w : World) (h : Rd w H A n l) (hH : H ≤ w.heap.size) (hn : n ≤ 1048576) (hnc : n ≤ c) (hcm : c ≤ 9223372036854775807) :
    Calls Tryz.prog 111 #[.slice A n c, .int .i64 x] w fun e w' => e = .returned (.tuple #[.int .i64 (nextR l x), .bool (hasB l x)]) ∧ Below w.heap.size w w' := by
  have hread := Lib.hid (readR_any A n c H l w h hH hn hnc hcm)
  by_cases hr : Ring l
  · have hl7 := hr.1.2.1
    obtain ⟨a0, a1, a2, a3, a4, a5, a6, hP⟩ := seven (padR_length l hl7)
    have hrp : ringP l = [a0, a1, a2, a3, a4, a5, a6] := by rw [ringP, if_pos hr, hP]
    have hhas := fun W => Lib.hid (has_any l x W hl7 hr.1.pos)
    have hin : hasB l x = decide (0 ≤ x ∧ x < l.length) := by rw [hasB, ring_yes hr, Bool.true_and]
    rw [← hin] at hhas
    unfold agp at hhas
    rw [hP] at hhas
    rw [hrp, ring_yes hr] at hread
    simp only [ints, List.map_cons, List.map_nil] at hhas hread
    have HH := Lib.hid hhas
    clear hhas hin hrp
    cases ht : hasB l x
    · have hR : nextR l x = 0 := by rw [nextR, if_neg (by simp [ht])]
      rw [hR]
      rw [ht] at HH
      clear hR ht hr hP hl7
      go_enter Tryz.func111, Tryz.ntmps111
      go_wp2_with fail
      refine hread.out.mono ?_
      rintro e W1 ⟨rfl, hb1⟩
      have HA := Lib.hid (new_ring W1)
      go_wp2_with (refine store_ring rfl _ _ rfl W1.heap.size zero7 [a0, a1, a2, a3, a4, a5, a6] rfl rfl rfl rfl HA ?_; intro w2 HA2 hg2 hs2; obtain ⟨c0, c1, c2, c3, c4, c5, c6⟩ := cells7 HA2.out; clear hs2)
      have hb2 := Lib.hid ((hb1.alloc hb1.size (.cells #[.int .i64 0, .int .i64 0, .int .i64 0, .int .i64 0, .int .i64 0, .int .i64 0, .int .i64 0] 31)).grown hg2 (by have := hb1.size; simp; omega) (by have := hb1.size; simp; omega))
      clear hg2 hb1
      refine ((HH.out _).out).mono ?_
      rintro e w3 ⟨rfl, hb3⟩
      have hb4 := Lib.hid (hb2.out.trans (hb3.mono hb2.out.size))
      clear hb3 c0 c1 c2 c3 c4 c5 c6
      go_wp2
      go_ret2
      exact ⟨rfl, hb4.out⟩
    · have hy := hasB_yes ht
      have hR : Hid (nextR l x = l.getD ((l.idxOf x + 1) % l.length) 0) := by rw [Hid, nextR, if_pos ht]
      have hcut := fun W => Lib.hid (next_any l x W (by have := hr.1.1; omega) hl7 hr.1.pos hy.2.2.2)
      rw [← hR.out] at hcut
      rw [ht] at HH
      unfold agp at hcut
      rw [hP] at hcut
      have HC := Lib.hid hcut
      clear hR ht hr hP hl7 hcut hy
      generalize nextR l x = C at *
      go_enter Tryz.func111, Tryz.ntmps111
      go_wp2_with fail
      refine hread.out.mono ?_
      rintro e W1 ⟨rfl, hb1⟩
      have HA := Lib.hid (new_ring W1)
      go_wp2_with (refine store_ring rfl _ _ rfl W1.heap.size zero7 [a0, a1, a2, a3, a4, a5, a6] rfl rfl rfl rfl HA ?_; intro w2 HA2 hg2 hs2; obtain ⟨c0, c1, c2, c3, c4, c5, c6⟩ := cells7 HA2.out; clear hs2)
      have hb2 := Lib.hid ((hb1.alloc hb1.size (.cells #[.int .i64 0, .int .i64 0, .int .i64 0, .int .i64 0, .int .i64 0, .int .i64 0, .int .i64 0] 31)).grown hg2 (by have := hb1.size; simp; omega) (by have := hb1.size; simp; omega))
      clear hg2 hb1
      refine ((HH.out _).out).mono ?_
      rintro e w3 ⟨rfl, hb3⟩
      have hb4 := Lib.hid (hb2.out.trans (hb3.mono hb2.out.size))
      have HA3 := Lib.hid (HA2.out.below hb3 HA2.out.lt)
      clear hb3 c0 c1 c2 c3 c4 c5 c6
      go_wp2_with (refine load_ring rfl _ rfl W1.heap.size [a0, a1, a2, a3, a4, a5, a6] rfl rfl HA3 ?_)
      refine ((HC.out _).out).mono ?_
      rintro e w4 ⟨rfl, hb5⟩
      have hb6 := Lib.hid (hb4.out.trans (hb5.mono hb4.out.size))
      clear hb5
      go_wp2
      go_ret2
      exact ⟨rfl, hb6.out⟩
  · have ht : hasB l x = false := by rw [hasB, ring_no hr, Bool.false_and]
    have hR : nextR l x = 0 := by rw [nextR, if_neg (by simp [ht])]
    have H7 := Lib.hid (ringP_length l)
    rw [hR, ht]
    rw [ring_no hr] at hread
    clear hR hr ht
    generalize ringP l = P at *
    go_enter Tryz.func111, Tryz.ntmps111
    go_wp2_with fail
    refine hread.out.mono ?_
    rintro e W1 ⟨rfl, hb1⟩
    have HA := Lib.hid (new_ring W1)
    go_wp2_with (refine store_ring rfl _ _ rfl W1.heap.size zero7 P rfl H7.out rfl rfl HA ?_; intro w2 HA2 hg2 hs2)
    have hb2 := (hb1.alloc hb1.size (.cells #[.int .i64 0, .int .i64 0, .int .i64 0, .int .i64 0, .int .i64 0, .int .i64 0, .int .i64 0] 31)).grown hg2 (by have := hb1.size; simp; omega) (by have := hb1.size; simp; omega)
    clear hg2 hs2 hb1
    go_ret2
    exact ⟨rfl, hb2⟩
end Go.Proofs.YtehadbpbkenccaaGreatDoor

namespace Go.Proofs.YtehadbpbkenccaaGreatDoor
open Go.ChangeShapes Go.WideShapes Go.ChangeAt Go.RowKit

/-- How many points between the places i and k are less than the one at i. -/
def cnt (l : List Int) (i : Nat) : Nat → Nat
  | 0 => 0
  | k + 1 => cnt l i k + if i < k ∧ l.getD k 0 < l.getD i 0 then 1 else 0
theorem cnt_le (l : List Int) (i k : Nat) : cnt l i k ≤ k := by
  induction k with
  | zero => simp [cnt]
  | succ k ih => rw [cnt]; split <;> omega
theorem cnt_start (l : List Int) (i : Nat) : ∀ k, k ≤ i + 1 → cnt l i k = 0
  | 0, _ => rfl
  | k + 1, h => by rw [cnt, cnt_start l i k (by omega), if_neg (by omega)]
theorem cnt_zero (l : List Int) (h0 : l.getD 0 0 = 0) (h : ∀ x ∈ l, 0 ≤ x) : ∀ k, k ≤ l.length → cnt l 0 k = 0
  | 0, _ => rfl
  | k + 1, hk => by
    rw [cnt, cnt_zero l h0 h k (by omega), if_neg]
    rintro ⟨_, hlt⟩
    have := h _ (getD_mem l k (by omega))
    omega
def numP (l : List Int) : Nat → Int
  | 0 => 0
  | m + 1 => numP l m + (cnt l m l.length : Int) * facN (l.length - 1 - m)
theorem facN_bd (m : Nat) : 1 ≤ facN m ∧ facN m ≤ 5040 := by
  match m with
  | 0 | 1 | 2 | 3 | 4 | 5 | 6 => simp [facN]
  | _ + 7 => simp [facN]
theorem prod_bd (c : Nat) (f : Int) (hc : c ≤ 7) (hf : 1 ≤ f ∧ f ≤ 5040) : 0 ≤ (c : Int) * f ∧ (c : Int) * f ≤ 35280 := by
  obtain rfl | rfl | rfl | rfl | rfl | rfl | rfl | rfl : c = 0 ∨ c = 1 ∨ c = 2 ∨ c = 3 ∨ c = 4 ∨ c = 5 ∨ c = 6 ∨ c = 7 := by omega
  all_goals omega
theorem numP_bd (l : List Int) (hl : l.length ≤ 7) : ∀ m, m ≤ 7 → 0 ≤ numP l m ∧ numP l m ≤ 35280 * m
  | 0, _ => by simp [numP]
  | m + 1, h => by
    have ih := numP_bd l hl m (by omega)
    have hb := prod_bd (cnt l m l.length) (facN (l.length - 1 - m)) (by have := cnt_le l m l.length; omega) (facN_bd _)
    rw [numP]
    push_cast
    omega

theorem facI_nat (m : Nat) (k : Int) (w : World) (hk : k = m) (hm : m ≤ 6) :
    Calls Tryz.prog 220 #[.int .i64 k] w fun e w' => e = .returned (.int .i64 (facN m)) ∧ w = w' := by
  subst hk
  have := facI_any (m : Int) w (by omega) (by omega)
  rwa [Int.toNat_natCast] at this

/-- A cut of an array between two places. -/
theorem slice_ring2 (W : World) (b m n : Nat) (hm : m ≤ n) (hn : n ≤ 7) :
    ∃ ad : Addr, (m < 7 → ad = ⟨b, m, none⟩) ∧
    (Instr.sliceAt 31 (.pointer (some ⟨b, 0, none⟩)) (some (.int .i64 (m : Int))) (some (.int .i64 (n : Int))) none).run Tryz.prog W = .ok (.slice (some ad) (n - m) (7 - m)) W := by
  obtain ⟨i, hi, _, hs, _⟩ := info_parts int_info
  have hal : Tryz.prog.arrayLen 31 = 7 := by kernel_rfl
  have hel : Tryz.prog.elem 31 = 3 := by kernel_rfl
  have h := run_sliceAt_array_lh (P := Tryz.prog) W 31 ⟨b, 0, none⟩ (by rw [hal, hel]; exact Tryz.underlying31) .i64 .i64 (m : Int) (n : Int) (by omega) (by omega) (by rw [hal]; omega)
  have hc : Tryz.prog.cellsOf 3 = 1 := cells_int
  refine ⟨if 7 = m then ⟨b, 0, none⟩ else (⟨b, 0, none⟩ : Addr).add (m * 1), fun hlt => ?_, ?_⟩
  · rw [if_neg (by omega), Nat.mul_one, Addr.add_lit, Nat.zero_add]
  · rw [h, hel, run_sizeOf W hi, Result.andThen_ok, hal, hc]
    simp [slicedAt]

set_option maxHeartbeats 2000000 in
theorem num_any (l : List Int) (w : World) (h1 : 1 ≤ l.length) (hl : l.length ≤ 7) (hp : ∀ x ∈ l, 0 ≤ x) :
    Calls Tryz.prog 164 #[agp l] w fun e w' => e = .returned (.int .i64 (numP l l.length)) ∧ Below w.heap.size w w' := by
  obtain ⟨a0, a1, a2, a3, a4, a5, a6, hP⟩ := seven (padR_length l hl)
  have HS := fun W => Lib.hid (size_any l W hl hp)
  have hga : ∀ k, k < l.length → ([a0, a1, a2, a3, a4, a5, a6] : List Int).getD k 0 = l.getD k 0 := fun k hk => by rw [← hP]; exact padR_get l k hk
  unfold agp at HS ⊢
  rw [hP] at HS ⊢
  simp only [ints, List.map_cons, List.map_nil] at HS ⊢
  have HSS := Lib.hid HS
  have HGA := Lib.hid hga
  clear hP hp HS hga
  generalize hn : l.length = n at *
  have HL := Lib.hid hn
  clear hn
  have hsl := fun W => slice_ring W w.heap.size n hl
  go_enter Tryz.func164, Tryz.ntmps164
  go_wp2_with (go_at_call 89; refine ((HSS.out _).out).mono ?_; rintro e w' ⟨rfl, rfl⟩)
  obtain ⟨W0, hW0⟩ : ∃ W, W = w.alloc (.cells #[.int .i64 a0, .int .i64 a1, .int .i64 a2, .int .i64 a3, .int .i64 a4, .int .i64 a5, .int .i64 a6] 31) := ⟨_, rfl⟩
  obtain ⟨W, hW⟩ : ∃ W, W = W0.alloc (.cells #[.int .i64 a0, .int .i64 a1, .int .i64 a2, .int .i64 a3, .int .i64 a4, .int .i64 a5, .int .i64 a6] 31) := ⟨_, rfl⟩
  rw [← hW0, ← hW]
  obtain ⟨k1, k2, k3⟩ := box_world w _ [a0, a1, a2, a3, a4, a5, a6] rfl W0 hW0
  have k4 : Arr W w.heap.size [a0, a1, a2, a3, a4, a5, a6] := by rw [hW]; exact k1.alloc _
  have HB := Lib.hid (show Below w.heap.size w W by rw [hW]; exact k2.alloc (by omega) _)
  have HA : Hid (∀ k, k < n → W.cell? ⟨w.heap.size, k, none⟩ = some (.int .i64 (l.getD k 0))) := fun k hk => by
    rw [← HGA.out k hk]
    exact k4.cell (by simp; omega)
  clear k1 k2 k3 k4 hW hW0 hsl HSS HGA
  generalize hB : w.heap.size = B at *
  have HBB := Lib.hid hB
  clear hB
  go_loop [4, 15] (fun s i => ∃ m : Nat, m ≤ n ∧ i = .int .i64 m ∧ s = .int .i64 (numP l m)) (fun _ i => n - (intOf i).toNat)
  case atStart => exact ⟨0, Nat.zero_le _, rfl, rfl⟩
  case round =>
    obtain ⟨m, hm, rfl, rfl⟩ := hrel
    by_cases hlt : m < n
    · obtain ⟨hq1, hq2⟩ := numP_bd l (by rw [HL.out]; exact hl) m (by omega)
      have HNX : Hid (numP l (m + 1) = numP l m + (cnt l m n : Int) * facN (n - 1 - m)) := by rw [Hid, numP, HL.out]
      have HPB := Lib.hid (prod_bd (cnt l m n) (facN (n - 1 - m)) (by have := cnt_le l m n; omega) (facN_bd _))
      obtain ⟨ad, had, hsa⟩ := slice_ring2 W B (m + 1) n (by omega) hl
      have hsa' : (Instr.sliceAt 31 (.pointer (some ⟨B, 0, none⟩)) (some (.int .i64 ((m : Int) + 1))) (some (.int .i64 (n : Int))) none).run Tryz.prog W = .ok (.slice (some ad) (n - (m + 1)) (7 - (m + 1))) W := by
        have e : (((m + 1 : Nat)) : Int) = (m : Int) + 1 := by omega
        rw [← e]; exact hsa
      have HAD := Lib.hid had
      have hcm := HA.out m hlt
      clear hsa had
      generalize hq : numP l m = q at *
      have HQ := Lib.hid hq
      clear hq
      generalize hy : l.getD m 0 = y at *
      have HY := Lib.hid hy
      clear hy
      go_wp2
      go_loop [7, 25] (fun s i => ∃ k : Nat, k ≤ n - (m + 1) ∧ i = .int .i64 k ∧ (∃ t : Nat, s = .int .i64 t ∧ t ≤ k ∧ Hid (t = cnt l m (m + 1 + k)))) (fun _ i => (n - (m + 1)) - (intOf i).toNat)
      case atStart => exact ⟨0, Nat.zero_le _, rfl, ⟨0, rfl, by omega, (cnt_start l m _ (Nat.le_refl _)).symm⟩⟩
      case round =>
        obtain ⟨k, hk, rfl, ⟨t, rfl, htk, ht⟩⟩ := hrel
        clear hsa'
        by_cases hlk : k < n - (m + 1)
        · have hadr := HAD.out (by omega)
          subst hadr
          have hc1 := HA.out (m + 1 + k) (by omega)
          have T : Hid (cnt l m (m + 1 + k + 1) = t + if l.getD (m + 1 + k) 0 < y then 1 else 0) := by
            rw [Hid, cnt, ← ht.out, HY.out]
            simp [show m < m + 1 + k by omega]
          generalize l.getD (m + 1 + k) 0 = x at hc1 T
          by_cases hxy : x < y
          · have T2 : Hid (t + 1 = cnt l m (m + 1 + (k + 1))) := by rw [Hid, ← Nat.add_assoc, T.out, if_pos hxy]
            clear T
            go_wp2
            go_round
            case rel => exact ⟨k + 1, by omega, by go_num, ⟨t + 1, by go_num, by omega, T2⟩⟩
            case measure => simp [intOf]; omega
          · have T2 : Hid (t = cnt l m (m + 1 + (k + 1))) := by rw [Hid, ← Nat.add_assoc, T.out, if_neg hxy, Nat.add_zero]
            clear T
            go_wp2
            go_round
            case rel => exact ⟨k + 1, by omega, by go_num, ⟨t, rfl, by omega, T2⟩⟩
            case measure => simp [intOf]; omega
        · have ht2 : Hid (t = cnt l m n) := by
            have := ht.out
            rwa [show m + 1 + k = n by omega] at this
          obtain ⟨f, hf⟩ : ∃ f, f = facN (n - 1 - m) := ⟨_, rfl⟩
          have HF := Lib.hid hf
          clear hf
          go_wp2_with fail
          refine (facI_nat (n - 1 - m) _ _ (by omega) (by omega)).mono ?_
          rintro e w' ⟨rfl, rfl⟩
          rw [← HF.out]
          obtain ⟨p, hp⟩ : ∃ p : Int, p = (t : Int) * f := ⟨_, rfl⟩
          have hpb : 0 ≤ p ∧ p ≤ 35280 := by rw [hp, ht2.out, HF.out]; exact HPB.out
          obtain ⟨hp0, hp1⟩ := hpb
          have hwp : wrap64 ((t : Int) * f) = p := by rw [← hp]; exact IntWalk.wrap64_in p ⟨by omega, by omega⟩
          have HNX2 : Hid (numP l (m + 1) = q + p) := by rw [Hid, HNX.out, hp, ht2.out, HF.out]
          clear hp
          go_wp2
          go_round
          case rel => exact ⟨m + 1, by omega, by go_num, by rw [HNX2.out]⟩
          case measure => simp [intOf]; omega
    · obtain rfl : m = n := by omega
      go_wp2
      go_ret
      exact ⟨rfl, by rw [HBB.out]; exact HB.out⟩
end Go.Proofs.YtehadbpbkenccaaGreatDoor

namespace Go.Proofs.YtehadbpbkenccaaGreatDoor
open Go.ChangeShapes Go.WideShapes Go.ChangeAt Go.RowKit

def rcount (n : Int) : Int := if 3 ≤ n ∧ n ≤ 7 then facN (n.toNat - 1) else 0

theorem countI_any (n : Int) (w : World) :
    Calls Tryz.prog 155 #[.int .i64 n] w fun e w' => e = .returned (.tuple #[.int .i64 (rcount n), .bool (decide (3 ≤ n) && decide (n ≤ 7))]) ∧ w = w' := by
  by_cases h : 3 ≤ n ∧ n ≤ 7
  · have hb : (decide (3 ≤ n) && decide (n ≤ 7)) = true := by simpa using h
    have hr : rcount n = facN (n.toNat - 1) := by unfold rcount; rw [if_pos h]
    rw [hr, hb]
    obtain ⟨h1, h2⟩ := h
    clear hr
    go_enter Tryz.func155, Tryz.ntmps155
    go_wp2_with (first
      | (go_at_call 87; refine (sizeIn_any _ _).mono ?_; rintro e w' ⟨rfl, rfl⟩)
      | (go_at_call 220; refine (facI_any _ _ (by omega) (by omega)).mono ?_; rintro e w' ⟨rfl, rfl⟩))
    go_ret2
    exact ⟨rfl, rfl⟩
  · have hb : (decide (3 ≤ n) && decide (n ≤ 7)) = false := by simp; omega
    have hr : rcount n = 0 := by unfold rcount; rw [if_neg h]
    rw [hr, hb]
    clear hr h
    go_enter Tryz.func155, Tryz.ntmps155
    go_wp2_with (go_at_call 87; refine (sizeIn_any _ _).mono ?_; rintro e w' ⟨rfl, rfl⟩)
    go_ret2
    exact ⟨rfl, rfl⟩

end Go.Proofs.YtehadbpbkenccaaGreatDoor

namespace Go.Proofs.YtehadbpbkenccaaGreatDoor
open Go.ChangeShapes Go.WideShapes Go.ChangeAt Go.RowKit

/-- Points taken one by one out of those that are left, by a number. -/
def takeBy : Nat → List Int → Int → List Int
  | 0, _, _ => []
  | m + 1, left, k => left.getD (k / facN m).toNat 0 :: takeBy m (left.eraseIdx (k / facN m).toNat) (k % facN m)

def upFrom (a : Int) (n : Nat) : List Int := (List.range n).map fun i : Nat => a + (i : Int)
@[simp] theorem upFrom_length (a : Int) (n : Nat) : (upFrom a n).length = n := by simp [upFrom]
theorem upFrom_snoc (a : Int) (n : Nat) : upFrom a (n + 1) = upFrom a n ++ [a + (n : Int)] := by simp [upFrom, List.range_succ]
theorem upFrom_cons (a : Int) (n : Nat) : upFrom a (n + 1) = a :: upFrom (a + 1) n := by
  simp [upFrom, List.range_succ_eq_map, Function.comp_def]
  intro i _
  omega
theorem upFrom_get (a : Int) (n k : Nat) (h : k < n) : (upFrom a n).getD k 0 = a + k := by simp [upFrom, List.getD, h]

theorem facN_succ (m : Nat) (h : m ≤ 6) : facN (m + 1) = ((m + 1 : Nat) : Int) * facN m := by
  obtain rfl | rfl | rfl | rfl | rfl | rfl | rfl : m = 0 ∨ m = 1 ∨ m = 2 ∨ m = 3 ∨ m = 4 ∨ m = 5 ∨ m = 6 := by omega
  all_goals decide

/-- The place that a number tells among m + 1 points that are left. -/
theorem place_bd (m : Nat) (k : Int) (h : m ≤ 6) (h0 : 0 ≤ k) (hk : k < facN (m + 1)) : 0 ≤ k / facN m ∧ k / facN m ≤ m ∧ 0 ≤ k % facN m ∧ k % facN m < facN m := by
  have hf := (facN_bd m).1
  rw [facN_succ m h] at hk
  refine ⟨Int.ediv_nonneg h0 (by omega), ?_, Int.emod_nonneg _ (by omega), Int.emod_lt_of_pos _ (by omega)⟩
  have := Int.ediv_lt_of_lt_mul (by omega : 0 < facN m) hk
  omega

theorem takeBy_length (m : Nat) (left : List Int) (k : Int) : (takeBy m left k).length = m := by
  induction m generalizing left k with
  | zero => rfl
  | succ m ih => simp [takeBy, ih]
theorem takeBy_mem : ∀ (m : Nat) (left : List Int) (k : Int), m ≤ 7 → left.length = m → 0 ≤ k → k < facN m → ∀ x ∈ takeBy m left k, x ∈ left
  | 0, _, _, _, _, _, _, x, hx => by simp [takeBy] at hx
  | m + 1, left, k, hm, hl, h0, hk, x, hx => by
    obtain ⟨h1, h2, h3, h4⟩ := place_bd m k (by omega) h0 hk
    rcases List.mem_cons.1 hx with rfl | hx
    · exact getD_mem left _ (by omega)
    · exact List.mem_of_mem_eraseIdx (takeBy_mem m _ _ (by omega) (by rw [List.length_eraseIdx]; rw [if_pos (by omega)]; omega) h3 h4 x hx)

/-- The ring of n points with the number k. -/
def byL (n : Nat) (k : Int) : List Int := takeBy n (upFrom 0 n) k
theorem byL_length (n : Nat) (k : Int) : (byL n k).length = n := takeBy_length n _ _
theorem byL_eq (n : Nat) (k : Int) (h1 : 1 ≤ n) (h7 : n ≤ 7) (h0 : 0 ≤ k) (hk : k < facN (n - 1)) : byL n k = 0 :: takeBy (n - 1) (upFrom 1 (n - 1)) k := by
  obtain ⟨m, rfl⟩ : ∃ m, n = m + 1 := ⟨n - 1, by omega⟩
  simp only [Nat.add_sub_cancel] at hk ⊢
  have hd : k / facN m = 0 := Int.ediv_eq_zero_of_lt h0 hk
  have hm : k % facN m = k := Int.emod_eq_of_lt h0 hk
  unfold byL
  rw [takeBy, hd, hm, upFrom_cons]
  rfl
theorem byL_pos (n : Nat) (k : Int) (h7 : n ≤ 7) (h0 : 0 ≤ k) (hk : k < facN n) : ∀ x ∈ byL n k, 0 ≤ x := fun x hx => by
  have := takeBy_mem n _ k h7 (by simp) h0 hk x hx
  obtain ⟨i, _, rfl⟩ := List.mem_map.1 this
  omega

/-- A number of points, and a number that there is. -/
def byB (n k : Int) : Bool := decide (3 ≤ n ∧ n ≤ 7 ∧ 0 ≤ k ∧ k < facN (n.toNat - 1))
def byR (n k : Int) : List Int := if byB n k then byL n.toNat k else []
theorem byR_length (n k : Int) : (byR n k).length ≤ 7 := by
  unfold byR
  split
  · rename_i h
    simp only [byB, decide_eq_true_eq] at h
    rw [byL_length]; omega
  · simp
end Go.Proofs.YtehadbpbkenccaaGreatDoor

namespace Go.Proofs.YtehadbpbkenccaaGreatDoor
open Go.ChangeShapes Go.WideShapes Go.ChangeAt Go.RowKit

/-- An append onto a row of the call's own, as one step of a region that draws its order. -/
theorem step_append_at {ops : Array Oper} {o : Oper} {a : Act} {K : Act → World → Prop} {Q : Exit → Act → World → Prop} {E : Prop} (w : World) (hgd : o.guard = none) (s x : Operand)
    (ho : o.op = .call { callee := .builtin .append, args := #[s, x], argTypes := #[41, 41] })
    (B : Nat) (v : Value) (n : Nat) (xs : List Value) (hs : a.eval s = v) (hown : w.ownsRow B 3 1 v n xs)
    (ad : Addr) (m c : Nat) (news : List Int) (hx : a.eval x = .slice (some ad) m c) (hl : news.length = m) (hnews : ∀ j u, (ints news)[j]? = some u → w.cell? (ad.add j) = some u)
    (h63 : n + m ≤ 1048576) (hbase : B ≤ w.heap.size)
    (h : ∀ v' w', w'.ownsRow B 3 1 v' (n + m) (xs ++ ints news) → w.grownBy w' v.ownBlock → (v'.ownBlock = v.ownBlock ∨ v'.ownBlock = some w.heap.size) → K (a.put o.dst v') w') :
    if Region.wanted o (yielded ops a.tmps) = true then Oper.wp Tryz.prog o a w K Q else E := by
  have hw : Region.wanted o (yielded ops a.tmps) = true := by simp [Region.wanted, hgd]
  rw [if_pos hw]
  obtain ⟨i0, hi, hz0, hz1, hz2⟩ := info_parts int_info
  obtain ⟨v', w', hr, h2, h3, _, h5⟩ := run_append_own_at (P := Tryz.prog) w B 41 o.type 3 i0 (.int .i64 0) 1 8 Tryz.underlying41 hi hz0 hz1 hz2 rfl (by decide) v n xs hown ad m c (ints news) (by simp [hl]) hnews (ints_oneCell news) (by unfold maxLen; omega) (by omega) hbase
  unfold Oper.wp execOp
  simp only [ho, resolve, invoke, builtin, Sem.run_bind, Sem.run_pure, Result.andThen_ok, List.map_toArray, List.map_cons, List.map_nil, hs, hx, hr]
  exact h v' w' h2 h3 h5

theorem elem_ints : Tryz.prog.elem 41 = 3 := by kernel_rfl

/-- The head of a slice up to a length. -/
theorem slice_head (W : World) (g n c m : Nat) (hm : m ≤ c) :
    (Instr.slice 41 (.slice (some ⟨g, 0, none⟩) n c) none (some (.int .i64 (m : Int))) none).run Tryz.prog W = .ok (.slice (some ⟨g, 0, none⟩) m c) W := by
  obtain ⟨i, hi, _, hs, _⟩ := info_parts int_info
  have h := run_slice_h (P := Tryz.prog) W 41 (some ⟨g, 0, none⟩) n c (by rw [elem_ints]; exact Tryz.underlying41) .i64 (m : Int) (by omega) (by omega)
  rw [h, elem_ints, run_sizeOf W hi, Result.andThen_ok]
  simp [sliced, Addr.add]

/-- The tail of a slice from a place on. -/
theorem slice_tail (W : World) (g n c m : Nat) (hm : m ≤ n) (_ : n ≤ c) :
    (Instr.slice 41 (.slice (some ⟨g, 0, none⟩) n c) (some (.int .i64 (m : Int))) none none).run Tryz.prog W = .ok (.slice (some (if c = m then ⟨g, 0, none⟩ else ⟨g, m, none⟩)) (n - m) (c - m)) W := by
  obtain ⟨i, hi, _, hs, _⟩ := info_parts int_info
  have h := run_slice_l (P := Tryz.prog) W 41 (some ⟨g, 0, none⟩) n c (by rw [elem_ints]; exact Tryz.underlying41) .i64 (m : Int) (by omega) (by omega)
  rw [h, elem_ints, run_sizeOf W hi, Result.andThen_ok, cells_int]
  by_cases e : c = m
  · simp [sliced, e]
  · simp [sliced, e, Addr.add_lit]

end Go.Proofs.YtehadbpbkenccaaGreatDoor

namespace Go.Proofs.YtehadbpbkenccaaGreatDoor
open Go.ChangeShapes Go.WideShapes Go.ChangeAt Go.RowKit

theorem i64_xor (a b : Nat) (ha : a < 1099511627776) (hb : b < 1099511627776) : bits .xor .i64 (a : Int) (b : Int) = ((a ^^^ b : Nat) : Int) := by
  have hx : a ^^^ b < 2 ^ 40 := Nat.xor_lt_two_pow (by omega) (by omega)
  have h1 : (BitVec.ofInt 64 (a : Int)).toNat = a := by
    rw [BitVec.ofInt_natCast, BitVec.toNat_ofNat]; exact Nat.mod_eq_of_lt (by omega)
  have h2 : (BitVec.ofInt 64 (b : Int)).toNat = b := by
    rw [BitVec.ofInt_natCast, BitVec.toNat_ofNat]; exact Nat.mod_eq_of_lt (by omega)
  show IntKind.i64.wrap ((BitVec.ofInt 64 (a : Int) ^^^ BitVec.ofInt 64 (b : Int)).toNat : Int) = _
  rw [BitVec.toNat_xor, h1, h2]
  exact IntWalk.i64_in _ (by omega)

/-- The bytes of a text that came in can be read. -/
def Byt (w : World) (H : Nat) (A : Option Addr) (n : Nat) : Prop := 0 < n → ∃ b o, A = some ⟨b, o, none⟩ ∧ b < H ∧ ∀ k, k < n → ∃ v : Nat, v < 256 ∧ w.cell? ⟨b, o + k, none⟩ = some (.int .u8 (v : Int))
/-- Block R is the drawer: its text, and how many numbers it has picked. -/
def RdAt (w : World) (R : Nat) (A : Option Addr) (n c p : Nat) : Prop := w.heap[R]? = some (.cells #[.slice A n c, .int .i64 (p : Int)] 100 (0, 0))
section
variable {w w' : World} {H R n c p : Nat} {A : Option Addr}
theorem Byt.keep (h : Byt w H A n) (hk : ∀ b o, b < H → w'.cell? ⟨b, o, none⟩ = w.cell? ⟨b, o, none⟩) : Byt w' H A n := fun hn => by
  obtain ⟨b, o, e, hb, hc⟩ := h hn
  refine ⟨b, o, e, hb, fun k hkn => ?_⟩
  obtain ⟨v, hv, hcv⟩ := hc k hkn
  exact ⟨v, hv, (hk b _ hb).trans hcv⟩
theorem Byt.below (h : Byt w H A n) (hb : Below H w w') : Byt w' H A n := h.keep fun _ _ hp => hb.cell hp
theorem RdAt.lt (h : RdAt w R A n c p) : R < w.heap.size := (Array.getElem?_eq_some_iff.1 h).1
theorem RdAt.same (h : RdAt w R A n c p) (hk : w'.heap[R]? = w.heap[R]?) : RdAt w' R A n c p := hk.trans h
theorem RdAt.c0 (h : RdAt w R A n c p) : w.cell? ⟨R, 0, none⟩ = some (.slice A n c) := by
  rw [cell_of_row w R 0 _ _ (0, 0) h]; rfl
theorem RdAt.c1 (h : RdAt w R A n c p) : w.cell? ⟨R, 1, none⟩ = some (.int .i64 (p : Int)) := by
  rw [cell_of_row w R 1 _ _ (0, 0) h]; rfl
theorem RdAt.frozen (h : RdAt w R A n c p) (i : Nat) : w.frozen? ⟨R, i, none⟩ = false := frozen_of_row w R i _ _ h
theorem RdAt.next (h : RdAt w R A n c p) : RdAt (w.setCell ⟨R, 1, none⟩ (.int .i64 ((p : Int) + 1))) R A n c (p + 1) := by
  have h' : w.heap[R]? = some (.cells #[.slice A n c, .int .i64 (p : Int)] 100 (0, 0)) := h
  simp [RdAt, World.setCell, Array.getElem?_modify, h']
end

set_option maxRecDepth 10000 in
set_option maxHeartbeats 2000000 in
theorem pick_any (R n c H p m : Nat) (A : Option Addr) (w : World) (hR : RdAt w R A n c p) (hb : Byt w H A n) (hH : H ≤ R) (hp : p ≤ 100000) (hn : n ≤ 2000) (hm1 : 1 ≤ m) (hm : m ≤ 1000) :
    Calls Tryz.prog 79 #[.pointer (some ⟨R, 0, none⟩), .int .i64 (m : Int)] w fun e w' => (∃ v : Nat, v < m ∧ e = .returned (.int .i64 (v : Int))) ∧ RdAt w' R A n c (p + 1) ∧ w.grownBy w' (some R) ∧ w'.heap.size = w.heap.size := by
  have c0 := hR.c0
  have c1 := hR.c1
  have f1 := hR.frozen 1
  have hw : IntKind.i64.wrap ((p : Int) + 1) = (p : Int) + 1 := IntWalk.i64_in _ (by omega)
  have HR := Lib.hid hR.next
  have HB := Lib.hid (hb.keep (w' := w.setCell ⟨R, 1, none⟩ (.int .i64 ((p : Int) + 1))) (fun b o hbH => (Below.setCell (Below.refl H w) (p := ⟨R, 1, none⟩) hH _).cell (p := ⟨b, o, none⟩) hbH))
  have HG : Hid (w.grownBy (w.setCell ⟨R, 1, none⟩ (.int .i64 ((p : Int) + 1))) (some R)) := ⟨rfl, rfl, rfl, by simp [World.setCell], fun k _ hk => Below.heap_setCell w _ _ k (by intro e; exact hk (by rw [e]))⟩
  have hlt := hR.lt
  clear hR hb
  have hw0 : IntKind.i64.wrap ((p : Int) + 1 - 1) = (p : Int) := by rw [show (p : Int) + 1 - 1 = (p : Int) by omega]; exact IntWalk.i64_in _ (by omega)
  have hwp : IntKind.i64.wrap (p : Int) = (p : Int) := IntWalk.i64_in _ (by omega)
  have d0 := HR.out.c0
  have d1 : (w.setCell ⟨R, 1, none⟩ (.int .i64 ((p : Int) + 1))).cell? ⟨R, 1, none⟩ = some (.int .i64 ((p : Int) + 1)) := by rw [HR.out.c1]; simp
  by_cases hn0 : n = 0
  · subst hn0
    clear HB
    go_enter Tryz.func79, Tryz.ntmps79
    go_wp2
    go_ret
    exact ⟨⟨0, by omega, rfl⟩, HR.out, HG.out, by simp [World.setCell]⟩
  · obtain ⟨b, o, e, hbH, hcs⟩ := HB.out (by omega)
    subst e
    have he0 : ((n : Int) == 0) = false := by simp; omega
    by_cases hpn : p < n
    · obtain ⟨v, hv, hcv⟩ := hcs p hpn
      have htm : Int.tmod (v : Int) (m : Int) = ((v % m : Nat) : Int) := by rw [Int.tmod_eq_emod_of_nonneg (by omega)]; simp
      have hvm : v % m < m := Nat.mod_lt _ (by omega)
      obtain ⟨r, hr⟩ : ∃ r, r = v % m := ⟨_, rfl⟩
      rw [← hr] at htm hvm
      clear hcs HB hr hn0
      go_enter Tryz.func79, Tryz.ntmps79
      go_wp2
      go_ret
      exact ⟨⟨r, hvm, rfl⟩, HR.out, HG.out, by simp [World.setCell]⟩
    · have hi1 : p % n < n := Nat.mod_lt _ (by omega)
      have hi2 : (p * 7 + 3) % n < n := Nat.mod_lt _ (by omega)
      obtain ⟨v1, hv1, hcv1⟩ := hcs _ hi1
      obtain ⟨v2, hv2, hcv2⟩ := hcs _ hi2
      have hj : p / n ≤ p := Nat.div_le_self _ _
      have t1 : Int.tmod (p : Int) (n : Int) = ((p % n : Nat) : Int) := by rw [Int.tmod_eq_emod_of_nonneg (by omega)]; simp
      have t2 : Int.tmod ((p : Int) * 7 + 3) (n : Int) = (((p * 7 + 3) % n : Nat) : Int) := by rw [Int.tmod_eq_emod_of_nonneg (by omega)]; simp
      have t3 : Int.tdiv (p : Int) (n : Int) = ((p / n : Nat) : Int) := by rw [Int.tdiv_eq_ediv_of_nonneg (by omega)]; simp
      obtain ⟨i1, hi1'⟩ : ∃ i, i = p % n := ⟨_, rfl⟩
      obtain ⟨i2, hi2'⟩ : ∃ i, i = (p * 7 + 3) % n := ⟨_, rfl⟩
      obtain ⟨j, hj'⟩ : ∃ j, j = p / n := ⟨_, rfl⟩
      rw [← hi1'] at t1 hi1 hcv1
      rw [← hi2'] at t2 hi2 hcv2
      rw [← hj'] at t3 hj
      clear hi1' hi2' hj' hcs HB hn0
      have x1 : IntKind.i64.wrap ((v1 : Int) * 131) = (v1 : Int) * 131 := IntWalk.i64_in _ (by omega)
      have x2 : IntKind.i64.wrap ((p : Int) * 7) = (p : Int) * 7 := IntWalk.i64_in _ (by omega)
      have x3 : IntKind.i64.wrap ((p : Int) * 7 + 3) = (p : Int) * 7 + 3 := IntWalk.i64_in _ (by omega)
      have x4 : IntKind.i64.wrap ((v2 : Int) * 1117) = (v2 : Int) * 1117 := IntWalk.i64_in _ (by omega)
      have x5 : IntKind.i64.wrap ((v1 : Int) * 131 + (v2 : Int) * 1117) = (v1 : Int) * 131 + (v2 : Int) * 1117 := IntWalk.i64_in _ (by omega)
      have x6 : IntKind.i64.wrap ((p : Int) * 29) = (p : Int) * 29 := IntWalk.i64_in _ (by omega)
      have x7 : IntKind.i64.wrap ((v1 : Int) * 131 + (v2 : Int) * 1117 + (p : Int) * 29) = (v1 : Int) * 131 + (v2 : Int) * 1117 + (p : Int) * 29 := IntWalk.i64_in _ (by omega)
      have x8 : IntKind.i64.wrap (j : Int) = (j : Int) := IntWalk.i64_in _ (by omega)
      have x9 : IntKind.i64.wrap ((j : Int) * 53) = (j : Int) * 53 := IntWalk.i64_in _ (by omega)
      obtain ⟨S, hS⟩ : ∃ S : Nat, S = v1 * 131 + v2 * 1117 + p * 29 + j * 53 := ⟨_, rfl⟩
      have x10 : IntKind.i64.wrap ((v1 : Int) * 131 + (v2 : Int) * 1117 + (p : Int) * 29 + (j : Int) * 53) = (S : Int) := by rw [IntWalk.i64_in _ (by omega)]; omega
      have hSb : S < 1099511627776 := by omega
      have t4 : Int.tdiv (S : Int) 64 = ((S / 64 : Nat) : Int) := by rw [Int.tdiv_eq_ediv_of_nonneg (by omega)]; simp
      obtain ⟨S2, hS2⟩ : ∃ S2, S2 = S / 64 := ⟨_, rfl⟩
      rw [← hS2] at t4
      have hS2b : S2 < 1099511627776 := by omega
      have x11 : IntKind.i64.wrap (S2 : Int) = (S2 : Int) := IntWalk.i64_in _ (by omega)
      have x12 := i64_xor S S2 hSb hS2b
      obtain ⟨X, hX⟩ : ∃ X, X = S ^^^ S2 := ⟨_, rfl⟩
      rw [← hX] at x12
      have t5 : Int.tmod (X : Int) (m : Int) = ((X % m : Nat) : Int) := by rw [Int.tmod_eq_emod_of_nonneg (by omega)]; simp
      have hvm : X % m < m := Nat.mod_lt _ (by omega)
      obtain ⟨r, hr⟩ : ∃ r, r = X % m := ⟨_, rfl⟩
      rw [← hr] at t5 hvm
      clear hS hS2 hX hr hSb hS2b
      go_enter Tryz.func79, Tryz.ntmps79
      go_wp2
      go_quiet (fail)
      go_wp2
      go_ret
      exact ⟨⟨r, hvm, rfl⟩, HR.out, ⟨HG.out.os, HG.out.tape, HG.out.output, HG.out.size, HG.out.block⟩, by simp [World.setCell]⟩

theorem grown_trans {w w1 w2 : World} {row : Option Nat} (h : w.grownBy w1 row) (k : w1.grownBy w2 row) : w.grownBy w2 row :=
  ⟨k.os.trans h.os, k.tape.trans h.tape, k.output.trans h.output, Nat.le_trans h.size k.size, fun i hi hr => (k.block i (Nat.lt_of_lt_of_le hi h.size) hr).trans (h.block i hi hr)⟩
theorem Byt.grown {w w' : World} {H R n : Nat} {A : Option Addr} (h : Byt w H A n) (hg : w.grownBy w' (some R)) (hH : H ≤ R) : Byt w' H A n := fun hn => by
  obtain ⟨b, o, e, hb, hc⟩ := h hn
  refine ⟨b, o, e, hb, fun k hk => ?_⟩
  obtain ⟨v, hv, hcv⟩ := hc k hk
  exact ⟨v, hv, hg.cell hcv (fun e => by have e1 : b = R := Option.some.inj e; omega)⟩

set_option maxRecDepth 10000 in
theorem openS_any (n c H : Nat) (A : Option Addr) (w : World) (hb : Byt w H A n) (hH : H ≤ w.heap.size) (hnc : n ≤ c) (hc : c ≤ 9223372036854775807) :
    Calls Tryz.prog 20 #[.slice A n c] w fun e w' => e = .returned (.pointer (some ⟨w.heap.size, 0, none⟩)) ∧ (∃ n', n' ≤ 2000 ∧ RdAt w' w.heap.size A n' c 0 ∧ Byt w' H A n') ∧ Below w.heap.size w w' := by
  have hbl : ∀ o : Obj, Below w.heap.size w (w.alloc o) := fun o => (Below.refl _ _).alloc (Nat.le_refl _) _
  by_cases h2 : 2000 < n
  · obtain ⟨b, o, e, hbH, hcs⟩ := hb (by omega)
    subst e
    have HB : Hid (Byt w H (some ⟨b, o, none⟩) 2000) := fun _ => ⟨b, o, rfl, hbH, fun k hk => hcs k (by omega)⟩
    obtain ⟨i0, hi, hz0, hz1, hz2⟩ := info_parts (show (Tryz.prog.info? 5).map (fun i => (i.zero, i.size, i.bytes)) = some (some (.int .u8 0), 1, 1) by kernel_rfl)
    have hsl : ∀ W, (Instr.slice 22 (.slice (some ⟨b, o, none⟩) n c) none (some (.int .i64 2000)) none).run Tryz.prog W = .ok (.slice (some ⟨b, o, none⟩) 2000 c) W := fun W => by
      have he : Tryz.prog.elem 22 = 5 := by kernel_rfl
      have h := run_slice_h (P := Tryz.prog) W 22 (some ⟨b, o, none⟩) n c (by rw [he]; exact Tryz.underlying22) .i64 2000 (by omega) (by omega)
      rw [h, he, run_sizeOf W hi, Result.andThen_ok]
      simp [sliced, Addr.add]
    clear hb hcs
    go_enter Tryz.func20, Tryz.ntmps20
    go_wp2
    go_ret
    exact ⟨rfl, ⟨2000, Nat.le_refl _, heap_alloc_new w _, HB.out.below ((hbl _).mono hH)⟩, hbl _⟩
  · have HB := Lib.hid hb
    clear hb
    go_enter Tryz.func20, Tryz.ntmps20
    go_wp2
    go_ret
    exact ⟨rfl, ⟨n, by omega, heap_alloc_new w _, HB.out.below ((hbl _).mono hH)⟩, hbl _⟩

set_option maxRecDepth 10000 in
theorem size91_any (R n c H p m : Nat) (A : Option Addr) (w : World) (hR : RdAt w R A n c p) (hb : Byt w H A n) (hH : H ≤ R) (hp : p ≤ 100000) (hn : n ≤ 2000) (hm1 : 3 ≤ m) (hm : m ≤ 100) :
    Calls Tryz.prog 78 #[.pointer (some ⟨R, 0, none⟩), .int .i64 (m : Int)] w fun e w' => (∃ v : Nat, 3 ≤ v ∧ v ≤ m ∧ e = .returned (.int .i64 (v : Int))) ∧ RdAt w' R A n c (p + 1) ∧ w.grownBy w' (some R) ∧ w'.heap.size = w.heap.size := by
  have HP := Lib.hid (pick_any R n c H p (m - 2) A w hR hb hH hp hn (by omega) (by omega))
  have e2 : (((m - 2 : Nat) : Nat) : Int) = (m : Int) - 2 := by omega
  rw [e2] at HP
  clear hR hb e2
  go_enter Tryz.func78, Tryz.ntmps78
  go_wp2_with fail
  refine HP.out.mono ?_
  rintro e w1 ⟨⟨v, hv, rfl⟩, h1, h2, h3⟩
  have H1 := Lib.hid h1
  have H2 := Lib.hid h2
  have H3 := Lib.hid h3
  clear h1 h2 h3
  have hw : IntKind.i64.wrap (3 + (v : Int)) = ((3 + v : Nat) : Int) := by rw [IntWalk.i64_in _ (by omega)]; omega
  go_wp2
  go_ret
  exact ⟨⟨3 + v, by omega, by omega, rfl⟩, H1.out, H2.out, H3.out⟩
end Go.Proofs.YtehadbpbkenccaaGreatDoor

namespace Go.Proofs.YtehadbpbkenccaaGreatDoor
open Go.ChangeShapes Go.WideShapes Go.ChangeAt Go.RowKit

theorem own_up (w1 : World) {v3 : Value} {o : Obj} (h : v3.ownBlock = (Value.slice (some ⟨w1.heap.size, 0, none⟩) 0 0).ownBlock ∨ v3.ownBlock = some (w1.alloc o).drew.heap.size) : ∀ z, v3.ownBlock = some z → w1.heap.size ≤ z := fun z hz => by
  rcases h with e | e
  · rw [e] at hz
    have : w1.heap.size = z := Option.some.inj hz
    omega
  · rw [e] at hz
    have : (w1.alloc o).drew.heap.size = z := Option.some.inj hz
    have e2 : (w1.alloc o).drew.heap.size = w1.heap.size + 1 := by show (w1.alloc o).heap.size = _; simp
    omega
theorem own_up2 {D s : Nat} {v3 v4 : Value} (h3 : ∀ z, v3.ownBlock = some z → D ≤ z) (h : v4.ownBlock = v3.ownBlock ∨ v4.ownBlock = some s) (hs : D ≤ s) : ∀ z, v4.ownBlock = some z → D ≤ z := fun z hz => by
  rcases h with e | e
  · rw [e] at hz; exact h3 z hz
  · rw [e] at hz
    have : s = z := Option.some.inj hz
    omega

theorem own_up3 (w1 : World) {v3 : Value} {o o' : Obj} (h : v3.ownBlock = (Value.slice (some ⟨w1.heap.size, 0, none⟩) 0 0).ownBlock ∨ v3.ownBlock = some ((w1.alloc o).alloc o').drew.heap.size) : ∀ z, v3.ownBlock = some z → w1.heap.size ≤ z := fun z hz => by
  rcases h with e | e
  · rw [e] at hz
    have : w1.heap.size = z := Option.some.inj hz
    omega
  · rw [e] at hz
    have : ((w1.alloc o).alloc o').drew.heap.size = z := Option.some.inj hz
    have e2 : ((w1.alloc o).alloc o').drew.heap.size = w1.heap.size + 1 + 1 := by show ((w1.alloc o).alloc o').heap.size = _; simp
    omega
theorem two_cell (w1 : World) (k : Nat) {w3 : World} {o : Obj} (h : ((w1.alloc o).alloc (.cells #[.int .i64 (k : Int)] 3)).drew.grownBy w3 (Value.slice (some ⟨w1.heap.size, 0, none⟩) 0 0).ownBlock) : ∀ j u, (ints [(k : Int)])[j]? = some u → w3.cell? ((⟨w1.heap.size + 1, 0, none⟩ : Addr).add j) = some u := by
  intro j u hu
  have h1 := heap_alloc_new (w1.alloc o) (.cells #[.int .i64 (k : Int)] 3)
  rw [show (w1.alloc o).heap.size = w1.heap.size + 1 by simp] at h1
  have h2 : w3.heap[w1.heap.size + 1]? = some (.cells #[.int .i64 (k : Int)] 3 (0, 0)) := (h.block (w1.heap.size + 1) (by show _ < ((w1.alloc o).alloc _).heap.size; simp) (by simp [Value.ownBlock])).trans h1
  rw [Addr.add_lit, cell_of_row w3 _ _ _ _ (0, 0) h2]
  simpa [ints] using hu

theorem own_up4 (w1 : World) {v3 : Value} {o o' : Obj} (h : v3.ownBlock = (Value.slice (some ⟨w1.heap.size + 1, 0, none⟩) 0 0).ownBlock ∨ v3.ownBlock = some ((w1.alloc o).alloc o').drew.heap.size) : ∀ z, v3.ownBlock = some z → w1.heap.size ≤ z := fun z hz => by
  rcases h with e | e
  · rw [e] at hz
    have : w1.heap.size + 1 = z := Option.some.inj hz
    omega
  · rw [e] at hz
    have : ((w1.alloc o).alloc o').drew.heap.size = z := Option.some.inj hz
    have e2 : ((w1.alloc o).alloc o').drew.heap.size = w1.heap.size + 1 + 1 := by show ((w1.alloc o).alloc o').heap.size = _; simp
    omega
theorem two_cell2 (w1 : World) (k : Nat) {w3 : World} {o : Obj} (h : ((w1.alloc (.cells #[.int .i64 (k : Int)] 3)).alloc o).drew.grownBy w3 (Value.slice (some ⟨w1.heap.size + 1, 0, none⟩) 0 0).ownBlock) : ∀ j u, (ints [(k : Int)])[j]? = some u → w3.cell? ((⟨w1.heap.size, 0, none⟩ : Addr).add j) = some u := by
  intro j u hu
  have h1 := heap_alloc_new w1 (.cells #[.int .i64 (k : Int)] 3)
  have h3 := Below.heap_alloc (w1.alloc (.cells #[.int .i64 (k : Int)] 3)) o w1.heap.size (by simp)
  have h2 : w3.heap[w1.heap.size]? = some (.cells #[.int .i64 (k : Int)] 3 (0, 0)) := (h.block w1.heap.size (by show _ < ((w1.alloc _).alloc o).heap.size; simp; omega) (by simp [Value.ownBlock])).trans (h3.trans h1)
  rw [Addr.add_lit, cell_of_row w3 _ _ _ _ (0, 0) h2]
  simpa [ints] using hu

set_option maxRecDepth 10000 in
set_option maxHeartbeats 2000000 in
theorem of91_any (R n c H p m : Nat) (A : Option Addr) (w : World) (hR : RdAt w R A n c p) (hb : Byt w H A n) (hH : H ≤ R) (hp : p ≤ 90000) (hn : n ≤ 2000) (hm1 : 1 ≤ m) (hm : m ≤ 7) :
    Calls Tryz.prog 77 #[.pointer (some ⟨R, 0, none⟩), .int .i64 (m : Int)] w fun e w' => ∃ v l q, e = .returned v ∧ Own w' w.heap.size v l ∧ (l.length = m ∧ RdAt w' R A n c q ∧ q ≤ p + 10) ∧ w.grownBy w' (some R) := by
  have HP := Lib.hid (fun V q k (h1 : RdAt V R A n c q) (h2 : Byt V H A n) (h3 : q ≤ 100000) (h4 : 1 ≤ k) (h5 : k ≤ 1000) => pick_any R n c H q k A V h1 h2 hH h3 hn h4 h5)
  have hRw := hR.lt
  have HO0 : Hid ((w.alloc (.cells #[.int .i64 0] 3)).ownsRow w.heap.size 3 1 (.slice (some ⟨w.heap.size, 0, none⟩) 1 1) 1 (ints [0])) := Lib.hid (World.ownsRow_lit w #[.int .i64 0] 1 (Nat.le_refl _) (by unfold maxLen; omega) rfl)
  have HG0 : Hid (w.grownBy (w.alloc (.cells #[.int .i64 0] 3)) (some R)) := World.grownBy_alloc w _ _
  have HR0 : Hid (RdAt (w.alloc (.cells #[.int .i64 0] 3)) R A n c p) := hR.same (Below.heap_alloc w _ R hRw)
  have HB0 := Lib.hid (hb.grown HG0.out hH)
  clear hR hb
  go_enter Tryz.func77, Tryz.ntmps77
  go_wp2
  generalize w.alloc (.cells #[.int .i64 0] 3) = W0 at *
  generalize hB : w.heap.size = B at *
  have HB := Lib.hid hB
  clear hB
  go_loopw [5, 6] (fun v i wr => ∃ (k : Nat) (l : List Int) (q : Nat), 1 ≤ k ∧ k ≤ m ∧ i = .int .i64 k ∧ Hid (l.length = k) ∧ Hid (wr.ownsRow B 3 1 v k (ints l)) ∧ Hid (RdAt wr R A n c q) ∧ q ≤ p + k ∧ Hid (Byt wr H A n) ∧ Hid (w.grownBy wr (some R))) (fun _ i _ => m - (intOf i).toNat)
  case atStart => exact ⟨1, [0], p, Nat.le_refl _, hm1, rfl, Lib.hid rfl, HO0, HR0, by omega, HB0, HG0⟩
  case round =>
    obtain ⟨k, l, q, hk1, hk, rfl, hl, hown, hrd, hq, hby, hgr⟩ := hrel
    clear HO0 HR0 HB0 HG0
    by_cases hlt : k < m
    · obtain ⟨g, cl, cur, e, hgB, hgc, hkc, hcm⟩ : ∃ g cl cur, u5 = .slice (some ⟨g, 0, none⟩) k cl ∧ B ≤ g ∧ wr.heap[g]? = some (.cells cur 3 (0, 0)) ∧ k ≤ cl ∧ cl ≤ maxLen := by
        rcases hown.out.2 with ⟨_, h0⟩ | ⟨g, cap, cur, e, h1, h2, h3, h4, _⟩
        · omega
        · exact ⟨g, cap, cur, e, h1, h2, h3, h4⟩
      subst e
      have hgs := (Array.getElem?_eq_some_iff.1 hgc).1
      clear hgc
      go_wp2_with fail
      refine (HP.out wr q k hrd.out hby.out (by omega) hk1 (by omega)).mono ?_
      rintro e w1 ⟨⟨v1, hv1, rfl⟩, h1, h2, h3⟩
      have HR1 := Lib.hid h1
      have HB1 := Lib.hid (hby.out.grown h2 hH)
      have HG1 := Lib.hid (grown_trans hgr.out h2)
      have HS1 := Lib.hid h3
      have hBR : B ≤ w1.heap.size := by rw [h3]; omega
      have hg1 : g < w1.heap.size := by rw [h3]; omega
      have hcells : Hid (∀ j u, (ints l)[j]? = some u → w1.cell? ⟨g, j, none⟩ = some u) := by
        intro j u hu
        rcases hown.out.2 with ⟨e, _⟩ | ⟨g', cap, cur, e, _, hgg, _, _, _, ht⟩
        · cases e
        · injection e with e1 _ _
          injection e1 with e1
          injection e1 with e1
          subst e1
          have hb1 : w1.heap[g]? = wr.heap[g]? := h2.block g hgs (fun e => by have e1 : g = R := Option.some.inj e; omega)
          rw [cell_of_row w1 g j _ _ (0, 0) (hb1.trans hgg)]
          rw [← ht, List.getElem?_take] at hu
          split at hu
          · rw [← Array.getElem?_toList]; exact hu
          · cases hu
      clear h1 h2 h3 hrd hby hgr hown
      obtain ⟨pl, hpl⟩ : ∃ pl, pl = v1 + 1 := ⟨_, rfl⟩
      have hw1 : IntKind.i64.wrap (1 + (v1 : Int)) = (pl : Int) := by rw [IntWalk.i64_in _ (by omega)]; omega
      have hplk : pl ≤ k := by omega
      have hpl1 : 1 ≤ pl := by omega
      clear hpl hv1
      have hsA := fun W => slice_head W g k cl pl (by omega)
      obtain ⟨ad, hade⟩ : ∃ ad : Addr, ad = if cl = pl then ⟨g, 0, none⟩ else ⟨g, pl, none⟩ := ⟨_, rfl⟩
      have hsB : ∀ W : World, (Instr.slice 41 (.slice (some ⟨g, 0, none⟩) k cl) (some (.int .i64 (pl : Int))) none none).run Tryz.prog W = .ok (.slice (some ad) (k - pl) (cl - pl)) W := fun W => by
        rw [hade]; exact slice_tail W g k cl pl (by omega) (by omega)
      have had : pl < k → ad = ⟨g, pl, none⟩ := fun h => by rw [hade, if_neg (by omega)]
      clear hade
      have HTK : Hid (∀ W : World, (∀ z, z < w1.heap.size → W.heap[z]? = w1.heap[z]?) → ∀ j u, (ints (l.take pl))[j]? = some u → W.cell? ((⟨g, 0, none⟩ : Addr).add j) = some u) := fun W hW j u hu => by
        rw [Addr.add_lit, Nat.zero_add, World.cell?_of_block (w := w1) (hW g hg1)]
        refine hcells.out j u ?_
        simp only [ints, List.map_take, List.getElem?_take] at hu
        split at hu
        · exact hu
        · cases hu
      have HDP : Hid (∀ W : World, (∀ z, z < w1.heap.size → W.heap[z]? = w1.heap[z]?) → ∀ j u, (ints (l.drop pl))[j]? = some u → W.cell? (ad.add j) = some u) := fun W hW j u hu => by
        have hj : j < (l.drop pl).length := by
          have := (List.getElem?_eq_some_iff.1 hu).1
          simpa using this
        rw [List.length_drop, hl.out] at hj
        rw [had (by omega), Addr.add_lit, World.cell?_of_block (w := w1) (hW g hg1)]
        refine hcells.out (pl + j) u ?_
        simp only [ints, List.map_drop, List.getElem?_drop] at hu
        exact hu
      have HLT : Hid ((l.take pl).length = pl) := by rw [Hid, List.length_take, hl.out]; omega
      have HLD : Hid ((l.drop pl).length = k - pl) := by rw [Hid, List.length_drop, hl.out]
      have HE0 : Hid ((w1.alloc (.cells #[] 3)).drew.ownsRow B 3 1 (.slice (some ⟨w1.heap.size, 0, none⟩) 0 0) 0 []) := Lib.hid (show _ from own_empty w1 _ hBR)
      have HE1 : Hid ((w1.alloc (.cells #[] 3)).ownsRow B 3 1 (.slice (some ⟨w1.heap.size, 0, none⟩) 0 0) 0 []) := Lib.hid (own_empty w1 _ hBR)
      have HE2 : Hid (((w1.alloc (.cells #[.int .i64 (k : Int)] 3)).alloc (.cells #[] 3)).ownsRow B 3 1 (.slice (some ⟨w1.heap.size + 1, 0, none⟩) 0 0) 0 []) := by
        have h := own_empty (w1.alloc (.cells #[.int .i64 (k : Int)] 3)) B (by simp; omega)
        rw [show (w1.alloc (.cells #[.int .i64 (k : Int)] 3)).heap.size = w1.heap.size + 1 by simp] at h
        exact h
      clear hcells had
      go_wp2
      go_region_law (first
        | (refine step_append_at _ rfl (.tmp 19) (.tmp 22) rfl B _ 0 [] (by simp [Act.eval]) HE0.out ⟨g, 0, none⟩ pl cl (l.take pl) (by simp [Act.eval]) HLT.out (HTK.out _ (fun z hz => Below.heap_alloc _ _ _ hz)) (by omega) (by simp; omega) ?_; intro v3 w3 hv3 hgv3 hatv3; have HV3 := Lib.hid hv3; have hs3 := hgv3.size; have HW3 := Lib.hid (fun z (hz : z < w1.heap.size) => (hgv3.block z (by simp; omega) (by simp [Value.ownBlock]; omega)).trans (Below.heap_alloc w1 _ z hz)); have HK3 := Lib.hid (own_up w1 hatv3); have HG3 := Lib.hid hgv3; clear hv3 hgv3 hatv3)
        | (refine step_append_at _ rfl (.tmp 19) (.tmp 22) rfl B _ 0 [] (by simp [Act.eval]) (HE1.out.alloc _).drew ⟨g, 0, none⟩ pl cl (l.take pl) (by simp [Act.eval]) HLT.out (HTK.out _ (fun z hz => (Below.heap_alloc _ _ _ (by simp; omega)).trans (Below.heap_alloc _ _ _ hz))) (by omega) (by simp; omega) ?_; intro v3 w3 hv3 hgv3 hatv3; have HV3 := Lib.hid hv3; have hs3 := hgv3.size; have HW3 := Lib.hid (fun z (hz : z < w1.heap.size) => (hgv3.block z (by simp; omega) (by simp [Value.ownBlock]; omega)).trans ((Below.heap_alloc _ _ z (by simp; omega)).trans (Below.heap_alloc w1 _ z hz))); have HK3 := Lib.hid (own_up3 w1 hatv3); have HC3 := Lib.hid (two_cell w1 k hgv3); have HG3 := Lib.hid hgv3; clear hv3 hgv3 hatv3)
        | (refine step_append_at _ rfl (.tmp 19) (.tmp 22) rfl B _ 0 [] (by simp [Act.eval]) HE2.out.drew ⟨g, 0, none⟩ pl cl (l.take pl) (by simp [Act.eval]) HLT.out (HTK.out _ (fun z hz => (Below.heap_alloc _ _ _ (by simp; omega)).trans (Below.heap_alloc _ _ _ hz))) (by omega) (by simp; omega) ?_; intro v3 w3 hv3 hgv3 hatv3; have HV3 := Lib.hid hv3; have hs3 := hgv3.size; have HW3 := Lib.hid (fun z (hz : z < w1.heap.size) => (hgv3.block z (by simp; omega) (by simp [Value.ownBlock]; omega)).trans ((Below.heap_alloc _ _ z (by simp; omega)).trans (Below.heap_alloc w1 _ z hz))); have HK3 := Lib.hid (own_up4 w1 hatv3); have HC3 := Lib.hid (two_cell2 w1 k hgv3); have HG3 := Lib.hid hgv3; clear hv3 hgv3 hatv3)
        | (refine step_append_at _ rfl (.tmp 23) (.tmp 25) rfl B v3 (0 + pl) ([] ++ ints (l.take pl)) (by simp [Act.eval]) (HV3.out.alloc _) ⟨w3.heap.size, 0, none⟩ 1 1 [(k : Int)] (by simp [Act.eval]) rfl (one_cell w3 _ _) (by omega) (by simp at hs3 ⊢; omega) ?_; intro v4 w4 hv4 hgv4 hatv4; have HV4 := Lib.hid hv4; have hs4 := hgv4.size; have HW4 := Lib.hid (fun z (hz : z < w1.heap.size) => (hgv4.block z (by simp at hs3 ⊢; omega) (fun e => by have := HK3.out z e.symm; omega)).trans ((Below.heap_alloc w3 _ z (by simp at hs3; omega)).trans (HW3.out z hz))); have HK4 := Lib.hid (own_up2 HK3.out hatv4 (by simp at hs3 ⊢; omega)); have HG4 := Lib.hid hgv4; clear hv4 hgv4 hatv4)
        | (refine step_append_at _ rfl (.tmp 23) (.tmp 25) rfl B v3 (0 + pl) ([] ++ ints (l.take pl)) (by simp [Act.eval]) HV3.out ⟨w1.heap.size + 1, 0, none⟩ 1 1 [(k : Int)] (by simp [Act.eval]) rfl HC3.out (by omega) (by simp at hs3 ⊢; omega) ?_; intro v4 w4 hv4 hgv4 hatv4; have HV4 := Lib.hid hv4; have hs4 := hgv4.size; have HW4 := Lib.hid (fun z (hz : z < w1.heap.size) => (hgv4.block z (by simp at hs3 ⊢; omega) (fun e => by have := HK3.out z e.symm; omega)).trans (HW3.out z hz)); have HK4 := Lib.hid (own_up2 HK3.out hatv4 (by simp at hs3 ⊢; omega)); have HG4 := Lib.hid hgv4; clear hv4 hgv4 hatv4)
        | (refine step_append_at _ rfl (.tmp 23) (.tmp 25) rfl B v3 (0 + pl) ([] ++ ints (l.take pl)) (by simp [Act.eval]) HV3.out ⟨w1.heap.size, 0, none⟩ 1 1 [(k : Int)] (by simp [Act.eval]) rfl HC3.out (by omega) (by simp at hs3 ⊢; omega) ?_; intro v4 w4 hv4 hgv4 hatv4; have HV4 := Lib.hid hv4; have hs4 := hgv4.size; have HW4 := Lib.hid (fun z (hz : z < w1.heap.size) => (hgv4.block z (by simp at hs3 ⊢; omega) (fun e => by have := HK3.out z e.symm; omega)).trans (HW3.out z hz)); have HK4 := Lib.hid (own_up2 HK3.out hatv4 (by simp at hs3 ⊢; omega)); have HG4 := Lib.hid hgv4; clear hv4 hgv4 hatv4)
        | (refine step_append_at _ rfl (.tmp 26) (.tmp 29) rfl B v4 (0 + pl + 1) ([] ++ ints (l.take pl) ++ ints [(k : Int)]) (by simp [Act.eval]) HV4.out ad (k - pl) (cl - pl) (l.drop pl) (by simp [Act.eval]) HLD.out (HDP.out _ HW4.out) (by omega) (by simp at hs3 hs4; omega) ?_; intro v5 w5 hv5 hgv5 hatv5))
      all_goals
        have hs5 := hgv5.size
        have HW5 := Lib.hid (fun z (hz : z < w1.heap.size) => (hgv5.block z (by simp at hs3 hs4; omega) (fun e => by have := HK4.out z e.symm; omega)).trans (HW4.out z hz))
        have HLEN : Hid ((l.take pl ++ [(k : Int)] ++ l.drop pl).length = k + 1) := by
          have h1 := HLT.out
          have h2 := HLD.out
          rw [Hid, List.length_append, List.length_append, h1, h2]
          simp; omega
        have HV5 : Hid (w5.ownsRow B 3 1 v5 (k + 1) (ints (l.take pl ++ [(k : Int)] ++ l.drop pl))) := by
          have e : 0 + pl + 1 + (k - pl) = k + 1 := by omega
          rw [e] at hv5
          simpa [ints, Hid] using hv5
        have HG5 : Hid (w1.grownBy w5 (some R)) := ⟨hgv5.os.trans (HG4.out.os.trans HG3.out.os), hgv5.tape.trans (HG4.out.tape.trans HG3.out.tape), hgv5.output.trans (HG4.out.output.trans HG3.out.output), by simp at hs3 hs4; omega, fun z hz _ => HW5.out z hz⟩
        have HR5 := Lib.hid (HR1.out.same (HW5.out R HR1.out.lt))
        have HB5 := Lib.hid (HB1.out.keep (fun b o hb => World.cell?_of_block (HW5.out b (by have := HR1.out.lt; omega))))
        have HGG := Lib.hid (grown_trans HG1.out HG5.out)
        clear hv5 hgv5 hatv5
        go_wp2
        go_roundw
        case rel => exact ⟨k + 1, l.take pl ++ [(k : Int)] ++ l.drop pl, q + 1, by omega, by omega, by go_num, HLEN, HV5, HR5, by omega, HB5, HGG⟩
        case measure => simp [intOf]; omega
    · obtain rfl : k = m := by omega
      go_wp2
      go_ret
      exact ⟨u5, l, q, rfl, by rw [HB.out]; unfold Own; rw [hl.out]; exact hown.out, ⟨hl.out, hrd.out, by omega⟩, hgr.out⟩
end Go.Proofs.YtehadbpbkenccaaGreatDoor

namespace Go.Proofs.YtehadbpbkenccaaGreatDoor
open Go.ChangeShapes Go.WideShapes Go.ChangeAt Go.RowKit

def OfL (k : Nat) (l : List Int) : Prop := (∀ j : Nat, j < k → (j : Int) ∈ l) ∧ l.getD 0 0 = 0
theorem ofL_one : OfL 1 [0] := ⟨fun j hj => by obtain rfl : j = 0 := by omega
                                               simp, rfl⟩
theorem ofL_step {k pl : Nat} {l : List Int} (_ : l.length = k) (h : OfL k l) (h1 : 1 ≤ pl) (_ : pl ≤ k) : OfL (k + 1) (l.take pl ++ [(k : Int)] ++ l.drop pl) := by
  refine ⟨fun j hj => ?_, ?_⟩
  · rcases Nat.lt_succ_iff_lt_or_eq.1 hj with hj | rfl
    · have := h.1 j hj
      rw [← List.take_append_drop pl l, List.mem_append] at this
      simp only [List.mem_append, List.mem_singleton]
      rcases this with h2 | h2
      · exact .inl (.inl h2)
      · exact .inr h2
    · simp
  · have h0 := h.2
    match l, pl, h1 with
    | [], pl + 1, _ =>
      have := h.1 0 (by rename_i hl _ _; simp at hl; omega)
      simp at this
    | x :: l, pl + 1, _ => simpa using h0
theorem ofL_ring {k : Nat} {l : List Int} (hl : l.length = k) (h : OfL k l) (h3 : 3 ≤ k) (h7 : k ≤ 7) : Ring l := by
  have := nodup_of_all k l hl h.1
  exact ⟨⟨by omega, by omega, fun x hx => by rw [hl]; exact this.2 x hx, this.1⟩, h.2⟩

set_option maxRecDepth 10000 in
set_option maxHeartbeats 2000000 in
theorem of91t_any (R n c H p m : Nat) (A : Option Addr) (w : World) (hR : RdAt w R A n c p) (hb : Byt w H A n) (hH : H ≤ R) (hp : p ≤ 90000) (hn : n ≤ 2000) (hm1 : 1 ≤ m) (hm : m ≤ 7) :
    Calls Tryz.prog 77 #[.pointer (some ⟨R, 0, none⟩), .int .i64 (m : Int)] w fun e w' => ∃ v l q, e = .returned v ∧ Own w' w.heap.size v l ∧ (l.length = m ∧ OfL m l ∧ RdAt w' R A n c q ∧ q ≤ p + 10) ∧ w.grownBy w' (some R) := by
  have HP := Lib.hid (fun V q k (h1 : RdAt V R A n c q) (h2 : Byt V H A n) (h3 : q ≤ 100000) (h4 : 1 ≤ k) (h5 : k ≤ 1000) => pick_any R n c H q k A V h1 h2 hH h3 hn h4 h5)
  have hRw := hR.lt
  have HO0 : Hid ((w.alloc (.cells #[.int .i64 0] 3)).ownsRow w.heap.size 3 1 (.slice (some ⟨w.heap.size, 0, none⟩) 1 1) 1 (ints [0])) := Lib.hid (World.ownsRow_lit w #[.int .i64 0] 1 (Nat.le_refl _) (by unfold maxLen; omega) rfl)
  have HG0 : Hid (w.grownBy (w.alloc (.cells #[.int .i64 0] 3)) (some R)) := World.grownBy_alloc w _ _
  have HR0 : Hid (RdAt (w.alloc (.cells #[.int .i64 0] 3)) R A n c p) := hR.same (Below.heap_alloc w _ R hRw)
  have HB0 := Lib.hid (hb.grown HG0.out hH)
  clear hR hb
  go_enter Tryz.func77, Tryz.ntmps77
  go_wp2
  generalize w.alloc (.cells #[.int .i64 0] 3) = W0 at *
  generalize hB : w.heap.size = B at *
  have HB := Lib.hid hB
  clear hB
  go_loopw [5, 6] (fun v i wr => ∃ (k : Nat) (l : List Int) (q : Nat), 1 ≤ k ∧ k ≤ m ∧ i = .int .i64 k ∧ Hid (l.length = k) ∧ Hid (OfL k l) ∧ Hid (wr.ownsRow B 3 1 v k (ints l)) ∧ Hid (RdAt wr R A n c q) ∧ q ≤ p + k ∧ Hid (Byt wr H A n) ∧ Hid (w.grownBy wr (some R))) (fun _ i _ => m - (intOf i).toNat)
  case atStart => exact ⟨1, [0], p, Nat.le_refl _, hm1, rfl, Lib.hid rfl, Lib.hid ofL_one, HO0, HR0, by omega, HB0, HG0⟩
  case round =>
    obtain ⟨k, l, q, hk1, hk, rfl, hl, hof, hown, hrd, hq, hby, hgr⟩ := hrel
    clear HO0 HR0 HB0 HG0
    by_cases hlt : k < m
    · obtain ⟨g, cl, cur, e, hgB, hgc, hkc, hcm⟩ : ∃ g cl cur, u5 = .slice (some ⟨g, 0, none⟩) k cl ∧ B ≤ g ∧ wr.heap[g]? = some (.cells cur 3 (0, 0)) ∧ k ≤ cl ∧ cl ≤ maxLen := by
        rcases hown.out.2 with ⟨_, h0⟩ | ⟨g, cap, cur, e, h1, h2, h3, h4, _⟩
        · omega
        · exact ⟨g, cap, cur, e, h1, h2, h3, h4⟩
      subst e
      have hgs := (Array.getElem?_eq_some_iff.1 hgc).1
      clear hgc
      go_wp2_with fail
      refine (HP.out wr q k hrd.out hby.out (by omega) hk1 (by omega)).mono ?_
      rintro e w1 ⟨⟨v1, hv1, rfl⟩, h1, h2, h3⟩
      have HR1 := Lib.hid h1
      have HB1 := Lib.hid (hby.out.grown h2 hH)
      have HG1 := Lib.hid (grown_trans hgr.out h2)
      have HS1 := Lib.hid h3
      have hBR : B ≤ w1.heap.size := by rw [h3]; omega
      have hg1 : g < w1.heap.size := by rw [h3]; omega
      have hcells : Hid (∀ j u, (ints l)[j]? = some u → w1.cell? ⟨g, j, none⟩ = some u) := by
        intro j u hu
        rcases hown.out.2 with ⟨e, _⟩ | ⟨g', cap, cur, e, _, hgg, _, _, _, ht⟩
        · cases e
        · injection e with e1 _ _
          injection e1 with e1
          injection e1 with e1
          subst e1
          have hb1 : w1.heap[g]? = wr.heap[g]? := h2.block g hgs (fun e => by have e1 : g = R := Option.some.inj e; omega)
          rw [cell_of_row w1 g j _ _ (0, 0) (hb1.trans hgg)]
          rw [← ht, List.getElem?_take] at hu
          split at hu
          · rw [← Array.getElem?_toList]; exact hu
          · cases hu
      clear h1 h2 h3 hrd hby hgr hown
      obtain ⟨pl, hpl⟩ : ∃ pl, pl = v1 + 1 := ⟨_, rfl⟩
      have hw1 : IntKind.i64.wrap (1 + (v1 : Int)) = (pl : Int) := by rw [IntWalk.i64_in _ (by omega)]; omega
      have hplk : pl ≤ k := by omega
      have hpl1 : 1 ≤ pl := by omega
      clear hpl hv1
      have hsA := fun W => slice_head W g k cl pl (by omega)
      obtain ⟨ad, hade⟩ : ∃ ad : Addr, ad = if cl = pl then ⟨g, 0, none⟩ else ⟨g, pl, none⟩ := ⟨_, rfl⟩
      have hsB : ∀ W : World, (Instr.slice 41 (.slice (some ⟨g, 0, none⟩) k cl) (some (.int .i64 (pl : Int))) none none).run Tryz.prog W = .ok (.slice (some ad) (k - pl) (cl - pl)) W := fun W => by
        rw [hade]; exact slice_tail W g k cl pl (by omega) (by omega)
      have had : pl < k → ad = ⟨g, pl, none⟩ := fun h => by rw [hade, if_neg (by omega)]
      clear hade
      have HTK : Hid (∀ W : World, (∀ z, z < w1.heap.size → W.heap[z]? = w1.heap[z]?) → ∀ j u, (ints (l.take pl))[j]? = some u → W.cell? ((⟨g, 0, none⟩ : Addr).add j) = some u) := fun W hW j u hu => by
        rw [Addr.add_lit, Nat.zero_add, World.cell?_of_block (w := w1) (hW g hg1)]
        refine hcells.out j u ?_
        simp only [ints, List.map_take, List.getElem?_take] at hu
        split at hu
        · exact hu
        · cases hu
      have HDP : Hid (∀ W : World, (∀ z, z < w1.heap.size → W.heap[z]? = w1.heap[z]?) → ∀ j u, (ints (l.drop pl))[j]? = some u → W.cell? (ad.add j) = some u) := fun W hW j u hu => by
        have hj : j < (l.drop pl).length := by
          have := (List.getElem?_eq_some_iff.1 hu).1
          simpa using this
        rw [List.length_drop, hl.out] at hj
        rw [had (by omega), Addr.add_lit, World.cell?_of_block (w := w1) (hW g hg1)]
        refine hcells.out (pl + j) u ?_
        simp only [ints, List.map_drop, List.getElem?_drop] at hu
        exact hu
      have HLT : Hid ((l.take pl).length = pl) := by rw [Hid, List.length_take, hl.out]; omega
      have HLD : Hid ((l.drop pl).length = k - pl) := by rw [Hid, List.length_drop, hl.out]
      have HE0 : Hid ((w1.alloc (.cells #[] 3)).drew.ownsRow B 3 1 (.slice (some ⟨w1.heap.size, 0, none⟩) 0 0) 0 []) := Lib.hid (show _ from own_empty w1 _ hBR)
      have HE1 : Hid ((w1.alloc (.cells #[] 3)).ownsRow B 3 1 (.slice (some ⟨w1.heap.size, 0, none⟩) 0 0) 0 []) := Lib.hid (own_empty w1 _ hBR)
      have HE2 : Hid (((w1.alloc (.cells #[.int .i64 (k : Int)] 3)).alloc (.cells #[] 3)).ownsRow B 3 1 (.slice (some ⟨w1.heap.size + 1, 0, none⟩) 0 0) 0 []) := by
        have h := own_empty (w1.alloc (.cells #[.int .i64 (k : Int)] 3)) B (by simp; omega)
        rw [show (w1.alloc (.cells #[.int .i64 (k : Int)] 3)).heap.size = w1.heap.size + 1 by simp] at h
        exact h
      clear hcells had
      go_wp2
      go_region_law (first
        | (refine step_append_at _ rfl (.tmp 19) (.tmp 22) rfl B _ 0 [] (by simp [Act.eval]) HE0.out ⟨g, 0, none⟩ pl cl (l.take pl) (by simp [Act.eval]) HLT.out (HTK.out _ (fun z hz => Below.heap_alloc _ _ _ hz)) (by omega) (by simp; omega) ?_; intro v3 w3 hv3 hgv3 hatv3; have HV3 := Lib.hid hv3; have hs3 := hgv3.size; have HW3 := Lib.hid (fun z (hz : z < w1.heap.size) => (hgv3.block z (by simp; omega) (by simp [Value.ownBlock]; omega)).trans (Below.heap_alloc w1 _ z hz)); have HK3 := Lib.hid (own_up w1 hatv3); have HG3 := Lib.hid hgv3; clear hv3 hgv3 hatv3)
        | (refine step_append_at _ rfl (.tmp 19) (.tmp 22) rfl B _ 0 [] (by simp [Act.eval]) (HE1.out.alloc _).drew ⟨g, 0, none⟩ pl cl (l.take pl) (by simp [Act.eval]) HLT.out (HTK.out _ (fun z hz => (Below.heap_alloc _ _ _ (by simp; omega)).trans (Below.heap_alloc _ _ _ hz))) (by omega) (by simp; omega) ?_; intro v3 w3 hv3 hgv3 hatv3; have HV3 := Lib.hid hv3; have hs3 := hgv3.size; have HW3 := Lib.hid (fun z (hz : z < w1.heap.size) => (hgv3.block z (by simp; omega) (by simp [Value.ownBlock]; omega)).trans ((Below.heap_alloc _ _ z (by simp; omega)).trans (Below.heap_alloc w1 _ z hz))); have HK3 := Lib.hid (own_up3 w1 hatv3); have HC3 := Lib.hid (two_cell w1 k hgv3); have HG3 := Lib.hid hgv3; clear hv3 hgv3 hatv3)
        | (refine step_append_at _ rfl (.tmp 19) (.tmp 22) rfl B _ 0 [] (by simp [Act.eval]) HE2.out.drew ⟨g, 0, none⟩ pl cl (l.take pl) (by simp [Act.eval]) HLT.out (HTK.out _ (fun z hz => (Below.heap_alloc _ _ _ (by simp; omega)).trans (Below.heap_alloc _ _ _ hz))) (by omega) (by simp; omega) ?_; intro v3 w3 hv3 hgv3 hatv3; have HV3 := Lib.hid hv3; have hs3 := hgv3.size; have HW3 := Lib.hid (fun z (hz : z < w1.heap.size) => (hgv3.block z (by simp; omega) (by simp [Value.ownBlock]; omega)).trans ((Below.heap_alloc _ _ z (by simp; omega)).trans (Below.heap_alloc w1 _ z hz))); have HK3 := Lib.hid (own_up4 w1 hatv3); have HC3 := Lib.hid (two_cell2 w1 k hgv3); have HG3 := Lib.hid hgv3; clear hv3 hgv3 hatv3)
        | (refine step_append_at _ rfl (.tmp 23) (.tmp 25) rfl B v3 (0 + pl) ([] ++ ints (l.take pl)) (by simp [Act.eval]) (HV3.out.alloc _) ⟨w3.heap.size, 0, none⟩ 1 1 [(k : Int)] (by simp [Act.eval]) rfl (one_cell w3 _ _) (by omega) (by simp at hs3 ⊢; omega) ?_; intro v4 w4 hv4 hgv4 hatv4; have HV4 := Lib.hid hv4; have hs4 := hgv4.size; have HW4 := Lib.hid (fun z (hz : z < w1.heap.size) => (hgv4.block z (by simp at hs3 ⊢; omega) (fun e => by have := HK3.out z e.symm; omega)).trans ((Below.heap_alloc w3 _ z (by simp at hs3; omega)).trans (HW3.out z hz))); have HK4 := Lib.hid (own_up2 HK3.out hatv4 (by simp at hs3 ⊢; omega)); have HG4 := Lib.hid hgv4; clear hv4 hgv4 hatv4)
        | (refine step_append_at _ rfl (.tmp 23) (.tmp 25) rfl B v3 (0 + pl) ([] ++ ints (l.take pl)) (by simp [Act.eval]) HV3.out ⟨w1.heap.size + 1, 0, none⟩ 1 1 [(k : Int)] (by simp [Act.eval]) rfl HC3.out (by omega) (by simp at hs3 ⊢; omega) ?_; intro v4 w4 hv4 hgv4 hatv4; have HV4 := Lib.hid hv4; have hs4 := hgv4.size; have HW4 := Lib.hid (fun z (hz : z < w1.heap.size) => (hgv4.block z (by simp at hs3 ⊢; omega) (fun e => by have := HK3.out z e.symm; omega)).trans (HW3.out z hz)); have HK4 := Lib.hid (own_up2 HK3.out hatv4 (by simp at hs3 ⊢; omega)); have HG4 := Lib.hid hgv4; clear hv4 hgv4 hatv4)
        | (refine step_append_at _ rfl (.tmp 23) (.tmp 25) rfl B v3 (0 + pl) ([] ++ ints (l.take pl)) (by simp [Act.eval]) HV3.out ⟨w1.heap.size, 0, none⟩ 1 1 [(k : Int)] (by simp [Act.eval]) rfl HC3.out (by omega) (by simp at hs3 ⊢; omega) ?_; intro v4 w4 hv4 hgv4 hatv4; have HV4 := Lib.hid hv4; have hs4 := hgv4.size; have HW4 := Lib.hid (fun z (hz : z < w1.heap.size) => (hgv4.block z (by simp at hs3 ⊢; omega) (fun e => by have := HK3.out z e.symm; omega)).trans (HW3.out z hz)); have HK4 := Lib.hid (own_up2 HK3.out hatv4 (by simp at hs3 ⊢; omega)); have HG4 := Lib.hid hgv4; clear hv4 hgv4 hatv4)
        | (refine step_append_at _ rfl (.tmp 26) (.tmp 29) rfl B v4 (0 + pl + 1) ([] ++ ints (l.take pl) ++ ints [(k : Int)]) (by simp [Act.eval]) HV4.out ad (k - pl) (cl - pl) (l.drop pl) (by simp [Act.eval]) HLD.out (HDP.out _ HW4.out) (by omega) (by simp at hs3 hs4; omega) ?_; intro v5 w5 hv5 hgv5 hatv5))
      all_goals
        have hs5 := hgv5.size
        have HW5 := Lib.hid (fun z (hz : z < w1.heap.size) => (hgv5.block z (by simp at hs3 hs4; omega) (fun e => by have := HK4.out z e.symm; omega)).trans (HW4.out z hz))
        have HLEN : Hid ((l.take pl ++ [(k : Int)] ++ l.drop pl).length = k + 1) := by
          have h1 := HLT.out
          have h2 := HLD.out
          rw [Hid, List.length_append, List.length_append, h1, h2]
          simp; omega
        have HV5 : Hid (w5.ownsRow B 3 1 v5 (k + 1) (ints (l.take pl ++ [(k : Int)] ++ l.drop pl))) := by
          have e : 0 + pl + 1 + (k - pl) = k + 1 := by omega
          rw [e] at hv5
          simpa [ints, Hid] using hv5
        have HG5 : Hid (w1.grownBy w5 (some R)) := ⟨hgv5.os.trans (HG4.out.os.trans HG3.out.os), hgv5.tape.trans (HG4.out.tape.trans HG3.out.tape), hgv5.output.trans (HG4.out.output.trans HG3.out.output), by simp at hs3 hs4; omega, fun z hz _ => HW5.out z hz⟩
        have HR5 := Lib.hid (HR1.out.same (HW5.out R HR1.out.lt))
        have HB5 := Lib.hid (HB1.out.keep (fun b o hb => World.cell?_of_block (HW5.out b (by have := HR1.out.lt; omega))))
        have HGG := Lib.hid (grown_trans HG1.out HG5.out)
        have HOF := Lib.hid (ofL_step hl.out hof.out hpl1 hplk)
        clear hv5 hgv5 hatv5
        go_wp2
        go_roundw
        case rel => exact ⟨k + 1, l.take pl ++ [(k : Int)] ++ l.drop pl, q + 1, by omega, by omega, by go_num, HLEN, HOF, HV5, HR5, by omega, HB5, HGG⟩
        case measure => simp [intOf]; omega
    · obtain rfl : k = m := by omega
      go_wp2
      go_ret
      exact ⟨u5, l, q, rfl, by rw [HB.out]; unfold Own; rw [hl.out]; exact hown.out, ⟨hl.out, hof.out, hrd.out, by omega⟩, hgr.out⟩
end Go.Proofs.YtehadbpbkenccaaGreatDoor

namespace Go.Proofs.YtehadbpbkenccaaGreatDoor
open Go.ChangeShapes Go.WideShapes Go.ChangeAt Go.RowKit

theorem OwnG.set {w : World} {B g o n c : Nat} {l : List Int} (h : OwnG w B (.slice (some ⟨g, o, none⟩) n c) l) {k : Nat} (hk : k < l.length) (u : Int) :
    OwnG (w.setCell ⟨g, o + k, none⟩ (.int .i64 u)) B (.slice (some ⟨g, o, none⟩) n c) (l.set k u) := by
  rcases h with ⟨e, _⟩ | ⟨g', o', c', cur, e, hb, hg, hc⟩
  · cases e
  · injection e with e1 e2 e3
    injection e1 with e1
    injection e1 with e4 e5 _
    subst e4; subst e5; subst e2; subst e3
    refine .inr ⟨g, o, c, cur.setIfInBounds (o + k) (.int .i64 u), by rw [List.length_set], hb, heap_setCell_same w g (o + k) cur _ _ hg, fun j hj => ?_⟩
    rw [List.length_set] at hj
    have hs : o + k < cur.size := (Array.getElem?_eq_some_iff.1 (hc k hk)).1
    rw [Array.getElem?_setIfInBounds]
    by_cases ejk : j = k
    · subst ejk
      rw [if_pos rfl, if_pos hs]
      simp [List.getD_eq_getElem?_getD, hj]
    · rw [if_neg (by omega), hc j hj]
      simp [List.getD_eq_getElem?_getD, Ne.symm ejk]
theorem OwnG.tail {w : World} {B g o n c : Nat} {l : List Int} (h : OwnG w B (.slice (some ⟨g, o, none⟩) n c) l) (h1 : 1 ≤ l.length) :
    OwnG w B (.slice (some ⟨g, o + 1, none⟩) (n - 1) (c - 1)) (l.drop 1) := by
  rcases h with ⟨e, _⟩ | ⟨g', o', c', cur, e, hb, hg, hc⟩
  · cases e
  · injection e with e1 e2 e3
    injection e1 with e1
    injection e1 with e4 e5 _
    subst e4; subst e5; subst e2; subst e3
    refine .inr ⟨g, o + 1, c - 1, cur, by rw [List.length_drop], hb, hg, fun j hj => ?_⟩
    rw [List.length_drop] at hj
    rw [show o + 1 + j = o + (1 + j) by omega, hc (1 + j) (by omega)]
    simp [List.getD_eq_getElem?_getD, Nat.add_comm]

end Go.Proofs.YtehadbpbkenccaaGreatDoor

namespace Go.Proofs.YtehadbpbkenccaaGreatDoor
open Go.ChangeShapes Go.WideShapes Go.ChangeAt Go.RowKit

/-- A short slice at hand: it reads as l in the world as it is. -/
def Rw (w : World) (A : Option Addr) (n c : Nat) (l : List Int) : Prop := Rd w w.heap.size A n l ∧ n ≤ c ∧ c ≤ 9223372036854775807 ∧ n ≤ 7
/-- As below, its capacity not told. -/
def NewG (w : World) (v : Value) (l : List Int) : Prop := ∃ A n c, v = .slice A n c ∧ Rw w A n n l
def NewR (w : World) (v : Value) (l : List Int) : Prop := ∃ A n c, v = .slice A n c ∧ Rw w A n c l
section
variable {w w' w1 w2 : World} {A : Option Addr} {n c B : Nat} {l : List Int} {v : Value}
theorem Rw.step (h : Rw w A n c l) (k : Below w.heap.size w w') : Rw w' A n c l := ⟨(h.1.below k).more k.size, h.2⟩
theorem Rw.rd (h : Rw w A n c l) : Rd w w.heap.size A n l := h.1
theorem Rw.big (h : Rw w A n c l) : n ≤ 1048576 := by have := h.2.2.2; omega
theorem Rw.len (h : Rw w A n c l) : l.length = n := h.1.len
theorem bl_step (h : Below w.heap.size w w1) (k : Below w1.heap.size w1 w2) : Below w.heap.size w w2 := h.trans (k.mono h.size)
theorem Own.newR (h : Own w B v l) (h7 : l.length ≤ 7) : NewR w v l := by
  obtain ⟨hg, A, c, e, hc, hm⟩ := h.rowV5
  subst e
  exact ⟨A, _, c, rfl, hg.rd.2, hc, hm, h7⟩
theorem OwnG.newG (h : OwnG w B v l) (h7 : l.length ≤ 7) : NewG w v l := by
  obtain ⟨A, c, e⟩ := h.slice
  subst e
  have := h.rd.2
  exact ⟨A, _, c, rfl, this, Nat.le_refl _, by omega, h7⟩
theorem RowV.newR (h : RowV w B v l) (h7 : l.length ≤ 7) : NewR w v l := by
  obtain ⟨hg, A, c, e, hc, hm⟩ := h
  subst e
  exact ⟨A, _, c, rfl, hg.rd.2, hc, hm, h7⟩
theorem Rw.at_ (h : Rw w A n c l) (hn : 0 < n) : ∃ b o, A = some ⟨b, o, none⟩ ∧ b < w.heap.size ∧ ∀ k, k < n → w.cell? ⟨b, o + k, none⟩ = some (.int .i64 (l.getD k 0)) := h.1.at_ hn
end
end Go.Proofs.YtehadbpbkenccaaGreatDoor

namespace Go.Proofs.YtehadbpbkenccaaGreatDoor
open Go.ChangeShapes Go.WideShapes Go.ChangeAt Go.RowKit

theorem u8_in {v : Int} (h : (Lit.int .u8 v).wf = true) : 0 ≤ v ∧ v < 256 := by
  have e : IntKind.u8.min ≤ v ∧ v ≤ IntKind.u8.max := by simpa [Lit.wf] using h
  simp [IntKind.min, IntKind.max, IntKind.signed, IntKind.bits] at e
  omega
theorem byt_of_row {w : World} {a : Option Addr} {len cap : Nat} {zs : List Int} (h : IsRow .u8 w a len cap zs) : Byt w w.heap.size a len ∧ len ≤ cap ∧ cap ≤ 9223372036854775807 := by
  rcases h with ⟨rfl, rfl, rfl, rfl⟩ | ⟨x, rfl, hl, hm, hz, hcell, hwf⟩
  · exact ⟨fun h => absurd h (by omega), by omega, by omega⟩
  · unfold maxLen at hm
    refine ⟨fun hp => ?_, hl, hm⟩
    obtain ⟨b, off, spot⟩ := x
    have hc := hcell 0 (by omega)
    have hspot : spot = none := by simpa [Addr.add] using World.cell?_spot hc
    subst hspot
    refine ⟨b, off, rfl, World.block_lt_of_cell? w ⟨b, off, none⟩ (by simpa [Addr.add] using hc), fun k hk => ?_⟩
    have h1 := hcell k (by omega)
    have h2 := u8_in (hwf _ (getD_mem zs k (by omega)))
    rw [Addr.add_lit] at h1
    exact ⟨(zs.getD k 0).toNat, by omega, by rw [h1, Int.toNat_of_nonneg h2.1]⟩

theorem below_grown {w w1 w2 : World} {R : Nat} (h : Below R w w1) (hg : w1.grownBy w2 (some R)) (hR : R < w1.heap.size) : Below R w w2 :=
  h.grown hg (by omega) (by intro k hk; have e : R = k := Option.some.inj hk; omega)

end Go.Proofs.YtehadbpbkenccaaGreatDoor

namespace Go.Proofs.YtehadbpbkenccaaGreatDoor
open Go.ChangeShapes Go.WideShapes Go.ChangeAt Go.RowKit Go.Sort Go.Lib

/-- The string of bytes. -/
def bs (l : List UInt8) : ByteArray := ⟨l.toArray⟩
theorem bs_list (l : List UInt8) : (bs l).data.toList = l := by simp [bs]
theorem bs_size (l : List UInt8) : (bs l).size = l.length := by simp [bs, ByteArray.size]
theorem bs_of (s : ByteArray) : bs s.data.toList = s := by cases s; simp [bs]
theorem bs_inj {l m : List UInt8} (h : bs l = bs m) : l = m := by rw [← bs_list l, h, bs_list]

/-- A byte as a cell. -/
def e8 (b : UInt8) : Value := .int .u8 (b.toNat : Int)
theorem Holds.below {w : World} {B blk off n : Nat} {d : Array UInt8} (hB : B ≤ blk) : Below B w (putRow e8 (Sort.ahead w n) blk off d) := by
  refine ⟨rfl, rfl, rfl, by simp [putRow, mapBlock, Sort.ahead], fun k hk => ?_⟩
  simp [putRow, mapBlock, Sort.ahead, Array.getElem?_modify]
  omega

set_option maxHeartbeats 1000000 in
theorem rev8_any (g off c : Nat) (d : Array UInt8) (w : World) (hH : Holds e8 w g off d) (hsz : d.size ≤ 1048576) :
    Calls Tryz.prog 341 #[.slice (some ⟨g, off, none⟩) d.size c] w fun e w' => e = .returned (.tuple #[]) ∧ ∃ n, w' = putRow e8 (Sort.ahead w n) g off d.reverse := by
  go_enter Tryz.func341, Tryz.ntmps341
  go_wp2
  go_loopg [2, 3] d.size (fun k a b wr => ∃ (i jn : Nat) (jz : Int) (dk : Array UInt8) (n : Nat), a = .int .i64 i ∧ b = .int .i64 jz ∧ ((i : Int) < jz → jz = jn ∧ jn < d.size) ∧ (¬ (i : Int) < jz → ¬ i < jn) ∧ jn - i ≤ k ∧
    dk.size = d.size ∧ Hid (wr = putRow e8 (Sort.ahead w n) g off dk) ∧ Hid (reverseLoop i jn dk = reverseLoop 0 (d.size - 1) d))
  case atStart => exact ⟨0, d.size - 1, (d.size : Int) - 1, d, 0, rfl, rfl, fun h => ⟨by omega, by omega⟩, fun h => by omega, by omega, rfl, (putRow_self e8 w g off d hH).symm, rfl⟩
  case round =>
    obtain ⟨i, jn, jz, dk, n, rfl, rfl, h1, h2, hk, hds, hwr, heq⟩ := hrel
    by_cases hlt : (i : Int) < jz
    · obtain ⟨rfl, hjn⟩ := h1 hlt
      have hij : i < jn := by omega
      have hHk : Holds e8 wr g off dk := by rw [hwr.out]; exact holds_putRow e8 _ g off d dk (holds_ahead e8 w n g off d hH) hds
      obtain ⟨ci, fi⟩ := hHk i (by omega)
      obtain ⟨cj, fj⟩ := hHk jn (by omega)
      clear hHk hH h1 h2
      simp only [e8] at ci cj
      go_wp2_with fail
      go_region
      go_wp2
      go_roundg (jn - 1 - (i + 1))
      case measure => omega
      case rel =>
        have heq' := heq.out
        rw [reverseLoop, if_pos hij] at heq'
        exact ⟨i + 1, jn - 1, (jn : Int) - 1, swp dk i jn, n + 1, by simp, rfl, fun h => ⟨by omega, by omega⟩, fun h => by omega, Nat.le_refl _, by rw [size_swp]; exact hds, swap_world e8 (by omega) (by omega) hwr.out (by first | rfl | simp [e8, getElem!_pos, show jn < dk.size by omega]) (by first | rfl | simp [e8, getElem!_pos, show i < dk.size by omega]), heq'⟩
    · have hnot := h2 hlt
      go_wp2
      go_end0
      refine ⟨rfl, n, ?_⟩
      have heq' := heq.out
      rw [reverseLoop, if_neg hnot] at heq'
      rw [← Lib.reverseLoop_reverse, ← heq', hwr.out]

/-- The bytes of l lie at a block's head, and may be written. -/
def H8 (w : World) (g : Nat) (l : List UInt8) : Prop := g < w.heap.size ∧ Holds e8 w g 0 l.toArray
theorem rev8_list (g c : Nat) (l : List UInt8) (w : World) (h : H8 w g l) (hl : l.length ≤ 1048576) :
    Calls Tryz.prog 341 #[.slice (some ⟨g, 0, none⟩) l.length c] w fun e w' => e = .returned (.tuple #[]) ∧ H8 w' g l.reverse ∧ Below g w w' := by
  have := rev8_any g 0 c l.toArray w h.2 (by simpa using hl)
  rw [List.size_toArray] at this
  refine this.mono fun e w' ⟨he, n, hw⟩ => ⟨he, ?_, hw ▸ Holds.below (Nat.le_refl _)⟩
  subst hw
  refine ⟨by simpa [putRow, mapBlock, Sort.ahead] using h.1, ?_⟩
  rw [← List.reverse_toArray]
  exact holds_putRow e8 _ g 0 l.toArray _ (holds_ahead e8 w n g 0 _ h.2) (by simp)
theorem to8 (w : World) (l : List UInt8) : ∃ C W, (convert 9 22 (.string (bs l))).run Tryz.prog w = .ok (.slice (some ⟨w.heap.size, 0, none⟩) l.length C) W ∧ H8 W w.heap.size l ∧ Below w.heap.size w W := by
  have h := run_bytes_of_string (P := Tryz.prog) w 9 22 5 (bs l) Tryz.underlying9 Tryz.underlying22 Tryz.underlying5
  rw [bs_size] at h
  refine ⟨_, _, h, ⟨by simp, ?_⟩, (Below.refl _ _).drew.alloc (Nat.le_refl _) _⟩
  intro j hj
  have hj' : j < l.length := by simpa using hj
  rw [Nat.zero_add]
  constructor
  · have h1 := World.cell?_alloc_mark w.drew (bytesRow (bs l) (grownCap w l.length 0 5)) 5 ((bytesRow (bs l) (grownCap w l.length 0 5)).size, (bytesRow (bs l) (grownCap w l.length 0 5)).size + 1) j
    have h2 := bytesRow_at (bs l) (grownCap w l.length 0 5) j (by simpa [bs] using hj')
    rw [h2] at h1
    rw [show w.drew.heap.size = w.heap.size from rfl] at h1
    rw [h1]
    simp [e8, bs, getElem!_pos, hj']
  · have h1 := World.frozen?_alloc_mark w.drew (bytesRow (bs l) (grownCap w l.length 0 5)) 5 (bytesRow (bs l) (grownCap w l.length 0 5)).size ((bytesRow (bs l) (grownCap w l.length 0 5)).size + 1) j
    rw [show w.drew.heap.size = w.heap.size from rfl] at h1
    rw [h1]
    have : j < (bytesRow (bs l) (grownCap w l.length 0 5)).size := by simp [bytesRow, bs]; omega
    simp; omega
theorem of8 {w : World} {g : Nat} {l : List UInt8} (h : H8 w g l) (c : Nat) : (convert 22 9 (.slice (some ⟨g, 0, none⟩) l.length c)).run Tryz.prog w = .ok (.string (bs l)) w := by
  refine run_convert_bytes_back (P := Tryz.prog) w 22 9 5 ⟨g, 0, none⟩ c l Tryz.underlying22 Tryz.underlying5 Tryz.underlying9 fun j hj => ?_
  rw [Addr.add_lit]
  have := (h.2 j (by simpa using hj)).1
  rw [this]
  simp [e8, getElem!_pos, hj]
end Go.Proofs.YtehadbpbkenccaaGreatDoor

namespace Go.Proofs.YtehadbpbkenccaaGreatDoor
open Go.ChangeShapes Go.WideShapes Go.ChangeAt Go.RowKit

set_option maxHeartbeats 1000000 in
theorem of_any (R n c H p g m : Nat) (A : Option Addr) (L : List ByteArray) (w : World) (hR : RdAt w R A n c p) (hb : Byt w H A n) (hH : H ≤ R) (hp : p ≤ 100000) (hn : n ≤ 2000)
    (hm : L.length = m) (hL : ∀ j (hj : j < L.length), w.cell? ⟨g, j, none⟩ = some (.string L[j])) (hg : g ≠ R) (h1 : 1 ≤ m) (h2 : m ≤ 100) :
    Calls Tryz.prog 81 #[.pointer (some ⟨R, 0, none⟩), .slice (some ⟨g, 0, none⟩) m m] w fun e w' => ∃ s ∈ L, e = .returned (.string s) ∧ RdAt w' R A n c (p + 1) ∧ w.grownBy w' (some R) := by
  have HP := Lib.hid (pick_any R n c H p m A w hR hb hH hp hn h1 (by omega))
  have HL := Lib.hid hL
  have HM := Lib.hid hm
  clear hL hR hb hm
  go_enter Tryz.func81, Tryz.ntmps81
  go_wp2_with fail
  refine HP.out.mono ?_
  rintro e w1 ⟨⟨v, hv, rfl⟩, hr, hgr, hsz⟩
  have hvl : v < L.length := by rw [HM.out]; exact hv
  have hc := hgr.cell (HL.out v hvl) (fun e => hg (by have e1 : g = R := Option.some.inj e; exact e1))
  have HR := Lib.hid hr
  have HG := Lib.hid hgr
  clear hr hgr hsz HP
  go_wp2_with fail
  go_ret
  exact ⟨_, List.getElem_mem hvl, rfl, HR.out, HG.out⟩

theorem sz1 (b : UInt8) : (⟨#[b]⟩ : ByteArray).size = 1 := rfl
theorem sl_both (q : ByteArray) (i j : Nat) (hij : i ≤ j) (hj : j ≤ q.size) : ∃ x : ByteArray, x.size = j - i ∧ ∀ W, (Instr.slice 9 (.string q) (some (.int .i64 (i : Int))) (some (.int .i64 (j : Int))) none).run Tryz.prog W = .ok (.string x) W := by
  refine ⟨q.extract i j, by rw [ByteArray.size_extract]; omega, fun W => ?_⟩
  rw [run_slice_string_if (h := Tryz.underlying9), if_pos (by omega), if_pos (by omega)]
  simp
theorem sl_to (q : ByteArray) (j : Nat) (hj : j ≤ q.size) : ∃ x : ByteArray, x.size = j ∧ ∀ W, (Instr.slice 9 (.string q) none (some (.int .i64 (j : Int))) none).run Tryz.prog W = .ok (.string x) W := by
  refine ⟨q.extract 0 j, by rw [ByteArray.size_extract]; omega, fun W => ?_⟩
  rw [run_slice_string_to_if (h := Tryz.underlying9), if_pos (by omega)]
  simp
theorem sl_from (q : ByteArray) (i : Nat) (hi : i ≤ q.size) : ∃ x : ByteArray, x.size = q.size - i ∧ ∀ W, (Instr.slice 9 (.string q) (some (.int .i64 (i : Int))) none none).run Tryz.prog W = .ok (.string x) W := by
  refine ⟨q.extract i q.size, by rw [ByteArray.size_extract]; omega, fun W => ?_⟩
  rw [run_slice_string_from_if (h := Tryz.underlying9), if_pos (by omega)]
  simp

/-- What the drawer of a row of letters leaves: some text, at most so long; the drawer stands further on. -/
def RowD (R n c p m : Nat) (A : Option Addr) (w : World) (e : Ending) (w' : World) : Prop := ∃ s p', e = .returned (.string s) ∧ s.size + 4 ≤ 7 * m ∧ RdAt w' R A n c p' ∧ p' + 4 ≤ p + 6 * m ∧ w.grownBy w' (some R)

set_option maxRecDepth 10000 in
set_option maxHeartbeats 4000000 in
theorem row92_any (R n c H : Nat) (A : Option Addr) (hH : H ≤ R) (hn : n ≤ 2000) (M : Nat) : ∀ (q : ByteArray) (m p : Nat) (w : World), m ≤ M → q.size = m → 1 ≤ m → m ≤ 7 → p + 6 * m ≤ 90000 → RdAt w R A n c p → Byt w H A n →
    Calls Tryz.prog 80 #[.pointer (some ⟨R, 0, none⟩), .string q] w (RowD R n c p m A w) := by
  induction M with
  | zero => intro q m p w h1 h2 h3; omega
  | succ M ih =>
    intro q m p w hM hq h1 h7 hp hR hb
    have HP := Lib.hid (fun V q k (h1 : RdAt V R A n c q) (h2 : Byt V H A n) (h3 : q ≤ 100000) (h4 : 1 ≤ k) (h5 : k ≤ 1000) => pick_any R n c H q k A V h1 h2 hH h3 hn h4 h5)
    have HI := Lib.hid ih
    have HR := Lib.hid hR
    have HB := Lib.hid hb
    have hRw := hR.lt
    have HQ := Lib.hid hq
    clear ih hR hb
    by_cases hm1 : m = 1
    · subst hm1
      have HRW := HR
      have HBW := HB
      have HGW : Hid (w.grownBy w (some R)) := ⟨rfl, rfl, rfl, Nat.le_refl _, fun _ _ _ => rfl⟩
      obtain ⟨p1, hp1⟩ : ∃ p1, p1 = p := ⟨_, rfl⟩
      rw [← hp1] at HRW
      obtain ⟨s, hs⟩ : ∃ s, s = q := ⟨_, rfl⟩
      have hss : s.size + 6 ≤ 7 * 1 := by rw [hs, hq]; decide
      have hpp : p1 + 6 ≤ p + 6 * 1 := by omega
      obtain ⟨W, hW⟩ : ∃ W, W = w := ⟨_, rfl⟩
      rw [← hW] at HRW HBW HGW
      rw [← hW] at HR HB hRw
      subst hW
      subst hs
      go_enter Tryz.func80, Tryz.ntmps80
      go_wp2_with fail
      refine (HP.out _ p1 8 HRW.out HBW.out (by omega) (by omega) (by omega)).mono ?_
      rintro e wt ⟨⟨v, hv, rfl⟩, ht1, ht2, ht3⟩
      have HT1 := Lib.hid ht1
      have HTB := Lib.hid (HBW.out.grown ht2 hH)
      have HTG := Lib.hid (grown_trans HGW.out ht2)
      have hRt : R < wt.heap.size := ht1.lt
      clear ht1 ht2 ht3
      by_cases hv0 : v = 0
      · subst hv0
        go_wp2_with fail
        go_ret
        exact ⟨_, _, rfl, by first | omega | (simp only [ByteArray.size_append]; omega) | (simp only [ByteArray.size_append, sz1]; omega), HT1.out, by omega, HTG.out⟩
      · by_cases hv1 : v = 1
        · subst hv1
          have HOF := Lib.hid (of_any R n c H (p1 + 1) wt.heap.size 3 A [⟨#[45, 45]⟩, ⟨#[45]⟩, ⟨#[]⟩] (wt.alloc (.cells #[.string ⟨#[45, 45]⟩, .string ⟨#[45]⟩, .string ⟨#[]⟩] 9)) (HT1.out.same (Below.heap_alloc wt _ R hRt)) (HTB.out.grown (World.grownBy_alloc wt _ (some R)) hH) hH (by omega) hn rfl
            (fun j hj => by
              have hj3 : j < 3 := hj
              obtain rfl | rfl | rfl : j = 0 ∨ j = 1 ∨ j = 2 := by omega
              all_goals simp) (by omega) (by omega) (by omega))
          have HGA0 := Lib.hid (grown_trans HTG.out (World.grownBy_alloc wt (.cells #[.string ⟨#[45, 45]⟩, .string ⟨#[45]⟩, .string ⟨#[]⟩] 9) (some R)))
          go_wp2_with fail
          refine HOF.out.mono ?_
          rintro e wo ⟨u, hu, rfl, ho1, ho2⟩
          have hus : u.size ≤ 2 := by
            simp at hu
            rcases hu with rfl | rfl | rfl <;> decide
          have HO1 := Lib.hid ho1
          have HOG := Lib.hid (grown_trans HGA0.out ho2)
          clear hu ho1 ho2
          go_wp2_with fail
          go_ret
          exact ⟨_, _, rfl, by first | omega | (simp only [ByteArray.size_append]; omega) | (simp only [ByteArray.size_append, sz1]; omega), HO1.out, by omega, HOG.out⟩
        · have hv0' : ((v : Int) == 0) = false := by simp; omega
          have hv1' : ((v : Int) == 1) = false := by simp; omega
          go_wp2_with fail
          go_ret
          exact ⟨_, _, rfl, by first | omega | (simp only [ByteArray.size_append]; omega) | (simp only [ByteArray.size_append, sz1]; omega), HT1.out, by omega, HTG.out⟩
    · have hm2 : 2 ≤ m := by omega
      have HPM := HP.out w p (m - 1) HR.out HB.out (by omega) (by omega) (by omega)
      rw [show ((m - 1 : Nat) : Int) = (m : Int) - 1 by omega] at HPM
      have HPM := Lib.hid HPM
      go_enter Tryz.func80, Tryz.ntmps80
      go_wp2_with fail
      refine HPM.out.mono ?_
      rintro e w1 ⟨⟨v, hv, rfl⟩, hr1, hg1, hz1⟩
      obtain ⟨k, hk⟩ : ∃ k : Nat, k = v + 1 := ⟨_, rfl⟩
      have hw : IntKind.i64.wrap (1 + (v : Int)) = (k : Int) := by rw [IntWalk.i64_in _ (by omega)]; omega
      have hk1 : 1 ≤ k := by omega
      have hkm : k < m := by omega
      obtain ⟨qa, hqa, hsa⟩ := sl_to q k (by omega)
      obtain ⟨qb, hqb, hsb⟩ := sl_from q k (by omega)
      have HG1 := Lib.hid hg1
      have HIA := Lib.hid (HI.out qa k (p + 1) w1.drew (by omega) hqa hk1 (by omega) (by omega) hr1 (show Byt w1 H A n from HB.out.grown hg1 hH))
      have HB1 := Lib.hid (HB.out.grown hg1 hH)
      clear hr1 hg1 hz1 HPM hk hv
      go_wp2_with fail
      go_region_with (first
        | (go_at_call_of 80 (Value.string qa); refine HIA.out.mono ?_; rintro e wa ⟨sa, pa, rfl, hsa4, hra, hpa, hga⟩
           have HGA := Lib.hid (grown_trans HG1.out (grown_trans (w1 := w1.drew) ⟨rfl, rfl, rfl, Nat.le_refl _, fun _ _ _ => rfl⟩ hga))
           have HIB := Lib.hid (HI.out qb (m - k) pa wa (by omega) (by omega) (by omega) (by omega) (by omega) hra (HB.out.grown HGA.out hH))
           clear hra hga)
        | (go_at_call_of 80 (Value.string qb); refine HIB.out.mono ?_; rintro e wb ⟨sb, pb, rfl, hsb4, hrb, hpb, hgb⟩
           have HGB := Lib.hid (grown_trans HGA.out hgb)
           have HRB := Lib.hid hrb
           clear hrb hgb))
      all_goals
        obtain ⟨x, hx⟩ : ∃ x, x = ⟨#[40]⟩ ++ sa ++ sb ++ ⟨#[41]⟩ := ⟨_, rfl⟩
        have hxs : x.size + 6 ≤ 7 * m := by
          rw [hx]; simp only [ByteArray.size_append, sz1]; omega
        have hpb : pb + 7 ≤ p + 6 * m := by omega
        have HBB := Lib.hid (HB.out.grown HGB.out hH)
        rw [← hx]
        clear hx hsa hsb hqa hqb hsa4 hsb4 hpa hkm hk1 hw HIA HB1 HG1 HGA HIB HR HB hRw
        by_cases hm2' : m = 2
        · obtain ⟨p1, hp1⟩ : ∃ p1, p1 = pb := ⟨_, rfl⟩
          have HRF := HRB
          have HBF := HBB
          have HGF := HGB
          rw [← hp1] at HRF
          have hpp : p1 + 6 ≤ p + 6 * m := by omega
          clear hp1 hpb HRB HBB HGB
          subst hm2'
          go_wp2_with fail
          go_loopw [5, 7] (fun o i wr => ∃ (j : Nat) (ob : ByteArray), j ≤ 2 ∧ i = .int .i64 j ∧ o = .string ob ∧ ob.size = 1 + j ∧ Hid (RdAt wr R A n c p1) ∧ Hid (Byt wr H A n) ∧ Hid (w.grownBy wr (some R))) (fun _ i _ => 2 - (intOf i).toNat)
          case atStart => exact ⟨0, _, Nat.zero_le _, rfl, rfl, rfl, HRF.out, HBF.out, HGF.out⟩
          case round =>
            obtain ⟨j, ob, hj, rfl, rfl, hob, HRW, HBW, HGW⟩ := hrel
            clear HRF HBF HGF
            by_cases hlt : j < 2
            · obtain ⟨y, hy, hsy⟩ := sl_both q j (j + 1) (by omega) (by omega)
              rw [show ((j + 1 : Nat) : Int) = (j : Int) + 1 by omega] at hsy
              go_wp2_with fail
              go_roundw
              case rel => exact ⟨j + 1, _, by omega, by go_num, rfl, by rw [ByteArray.size_append]; omega, HRW.out, HBW.out, HGW.out⟩
              case measure => simp [intOf]; omega
            · have hjm : j = 2 := by omega
              rw [hjm] at hob
              subst hjm
              go_wp2_with fail
              refine (HP.out _ p1 8 HRW.out HBW.out (by omega) (by omega) (by omega)).mono ?_
              rintro e wt ⟨⟨v, hv, rfl⟩, ht1, ht2, ht3⟩
              have HT1 := Lib.hid ht1
              have HTB := Lib.hid (HBW.out.grown ht2 hH)
              have HTG := Lib.hid (grown_trans HGW.out ht2)
              have hRt : R < wt.heap.size := ht1.lt
              clear ht1 ht2 ht3
              by_cases hv0 : v = 0
              · subst hv0
                go_wp2_with fail
                go_ret
                exact ⟨_, _, rfl, by first | omega | (simp only [ByteArray.size_append]; omega) | (simp only [ByteArray.size_append, sz1]; omega), HT1.out, by omega, HTG.out⟩
              · by_cases hv1 : v = 1
                · subst hv1
                  have HOF := Lib.hid (of_any R n c H (p1 + 1) wt.heap.size 3 A [⟨#[45, 45]⟩, ⟨#[45]⟩, ⟨#[]⟩] (wt.alloc (.cells #[.string ⟨#[45, 45]⟩, .string ⟨#[45]⟩, .string ⟨#[]⟩] 9)) (HT1.out.same (Below.heap_alloc wt _ R hRt)) (HTB.out.grown (World.grownBy_alloc wt _ (some R)) hH) hH (by omega) hn rfl
                    (fun j hj => by
                      have hj3 : j < 3 := hj
                      obtain rfl | rfl | rfl : j = 0 ∨ j = 1 ∨ j = 2 := by omega
                      all_goals simp) (by omega) (by omega) (by omega))
                  have HGA0 := Lib.hid (grown_trans HTG.out (World.grownBy_alloc wt (.cells #[.string ⟨#[45, 45]⟩, .string ⟨#[45]⟩, .string ⟨#[]⟩] 9) (some R)))
                  go_wp2_with fail
                  refine HOF.out.mono ?_
                  rintro e wo ⟨u, hu, rfl, ho1, ho2⟩
                  have hus : u.size ≤ 2 := by
                    simp at hu
                    rcases hu with rfl | rfl | rfl <;> decide
                  have HO1 := Lib.hid ho1
                  have HOG := Lib.hid (grown_trans HGA0.out ho2)
                  clear hu ho1 ho2
                  go_wp2_with fail
                  go_ret
                  exact ⟨_, _, rfl, by first | omega | (simp only [ByteArray.size_append]; omega) | (simp only [ByteArray.size_append, sz1]; omega), HO1.out, by omega, HOG.out⟩
                · have hv0' : ((v : Int) == 0) = false := by simp; omega
                  have hv1' : ((v : Int) == 1) = false := by simp; omega
                  go_wp2_with fail
                  go_ret
                  exact ⟨_, _, rfl, by first | omega | (simp only [ByteArray.size_append]; omega) | (simp only [ByteArray.size_append, sz1]; omega), HT1.out, by omega, HTG.out⟩
        · have heq : ((m : Int) == 2) = false := by simp; omega
          go_wp2_with fail
          refine (HP.out _ pb 3 HRB.out HBB.out (by omega) (by omega) (by omega)).mono ?_
          rintro e wc ⟨⟨v3, hv3, rfl⟩, hc1, hc2, hc3⟩
          have HBF := Lib.hid (HBB.out.grown hc2 hH)
          have HGF := Lib.hid (grown_trans HGB.out hc2)
          have HRF := Lib.hid hc1
          obtain ⟨p1, hp1⟩ : ∃ p1, p1 = pb + 1 := ⟨_, rfl⟩
          rw [← hp1] at HRF
          have hpp : p1 + 6 ≤ p + 6 * m := by omega
          clear hp1 hpb HRB HBB HGB hc1 hc2 hc3
          by_cases hv30 : v3 = 0
          · subst hv30
            go_wp2_with fail
            go_loopw [5, 7] (fun o i wr => ∃ (j : Nat) (ob : ByteArray), j ≤ m ∧ i = .int .i64 j ∧ o = .string ob ∧ ob.size = 1 + j ∧ Hid (RdAt wr R A n c p1) ∧ Hid (Byt wr H A n) ∧ Hid (w.grownBy wr (some R))) (fun _ i _ => m - (intOf i).toNat)
            case atStart => exact ⟨0, _, Nat.zero_le _, rfl, rfl, rfl, HRF.out, HBF.out, HGF.out⟩
            case round =>
              obtain ⟨j, ob, hj, rfl, rfl, hob, HRW, HBW, HGW⟩ := hrel
              clear HRF HBF HGF
              by_cases hlt : j < m
              · obtain ⟨y, hy, hsy⟩ := sl_both q j (j + 1) (by omega) (by omega)
                rw [show ((j + 1 : Nat) : Int) = (j : Int) + 1 by omega] at hsy
                go_wp2_with fail
                go_roundw
                case rel => exact ⟨j + 1, _, by omega, by go_num, rfl, by rw [ByteArray.size_append]; omega, HRW.out, HBW.out, HGW.out⟩
                case measure => simp [intOf]; omega
              · have hjm : j = m := by omega
                rw [hjm] at hob
                subst hjm
                go_wp2_with fail
                refine (HP.out _ p1 8 HRW.out HBW.out (by omega) (by omega) (by omega)).mono ?_
                rintro e wt ⟨⟨v, hv, rfl⟩, ht1, ht2, ht3⟩
                have HT1 := Lib.hid ht1
                have HTB := Lib.hid (HBW.out.grown ht2 hH)
                have HTG := Lib.hid (grown_trans HGW.out ht2)
                have hRt : R < wt.heap.size := ht1.lt
                clear ht1 ht2 ht3
                by_cases hv0 : v = 0
                · subst hv0
                  go_wp2_with fail
                  go_ret
                  exact ⟨_, _, rfl, by first | omega | (simp only [ByteArray.size_append]; omega) | (simp only [ByteArray.size_append, sz1]; omega), HT1.out, by omega, HTG.out⟩
                · by_cases hv1 : v = 1
                  · subst hv1
                    have HOF := Lib.hid (of_any R n c H (p1 + 1) wt.heap.size 3 A [⟨#[45, 45]⟩, ⟨#[45]⟩, ⟨#[]⟩] (wt.alloc (.cells #[.string ⟨#[45, 45]⟩, .string ⟨#[45]⟩, .string ⟨#[]⟩] 9)) (HT1.out.same (Below.heap_alloc wt _ R hRt)) (HTB.out.grown (World.grownBy_alloc wt _ (some R)) hH) hH (by omega) hn rfl
                      (fun j hj => by
                        have hj3 : j < 3 := hj
                        obtain rfl | rfl | rfl : j = 0 ∨ j = 1 ∨ j = 2 := by omega
                        all_goals simp) (by omega) (by omega) (by omega))
                    have HGA0 := Lib.hid (grown_trans HTG.out (World.grownBy_alloc wt (.cells #[.string ⟨#[45, 45]⟩, .string ⟨#[45]⟩, .string ⟨#[]⟩] 9) (some R)))
                    go_wp2_with fail
                    refine HOF.out.mono ?_
                    rintro e wo ⟨u, hu, rfl, ho1, ho2⟩
                    have hus : u.size ≤ 2 := by
                      simp at hu
                      rcases hu with rfl | rfl | rfl <;> decide
                    have HO1 := Lib.hid ho1
                    have HOG := Lib.hid (grown_trans HGA0.out ho2)
                    clear hu ho1 ho2
                    go_wp2_with fail
                    go_ret
                    exact ⟨_, _, rfl, by first | omega | (simp only [ByteArray.size_append]; omega) | (simp only [ByteArray.size_append, sz1]; omega), HO1.out, by omega, HOG.out⟩
                  · have hv0' : ((v : Int) == 0) = false := by simp; omega
                    have hv1' : ((v : Int) == 1) = false := by simp; omega
                    go_wp2_with fail
                    go_ret
                    exact ⟨_, _, rfl, by first | omega | (simp only [ByteArray.size_append]; omega) | (simp only [ByteArray.size_append, sz1]; omega), HT1.out, by omega, HTG.out⟩
          · have hv3' : ((v3 : Int) == 0) = false := by simp; omega
            have HRW := HRF
            have HBW := HBF
            have HGW := HGF
            clear HRF HBF HGF
            obtain ⟨s, hs⟩ : ∃ s, s = x := ⟨_, rfl⟩
            subst hs
            go_wp2_with fail
            refine (HP.out _ p1 8 HRW.out HBW.out (by omega) (by omega) (by omega)).mono ?_
            rintro e wt ⟨⟨v, hv, rfl⟩, ht1, ht2, ht3⟩
            have HT1 := Lib.hid ht1
            have HTB := Lib.hid (HBW.out.grown ht2 hH)
            have HTG := Lib.hid (grown_trans HGW.out ht2)
            have hRt : R < wt.heap.size := ht1.lt
            clear ht1 ht2 ht3
            by_cases hv0 : v = 0
            · subst hv0
              go_wp2_with fail
              go_ret
              exact ⟨_, _, rfl, by first | omega | (simp only [ByteArray.size_append]; omega) | (simp only [ByteArray.size_append, sz1]; omega), HT1.out, by omega, HTG.out⟩
            · by_cases hv1 : v = 1
              · subst hv1
                have HOF := Lib.hid (of_any R n c H (p1 + 1) wt.heap.size 3 A [⟨#[45, 45]⟩, ⟨#[45]⟩, ⟨#[]⟩] (wt.alloc (.cells #[.string ⟨#[45, 45]⟩, .string ⟨#[45]⟩, .string ⟨#[]⟩] 9)) (HT1.out.same (Below.heap_alloc wt _ R hRt)) (HTB.out.grown (World.grownBy_alloc wt _ (some R)) hH) hH (by omega) hn rfl
                  (fun j hj => by
                    have hj3 : j < 3 := hj
                    obtain rfl | rfl | rfl : j = 0 ∨ j = 1 ∨ j = 2 := by omega
                    all_goals simp) (by omega) (by omega) (by omega))
                have HGA0 := Lib.hid (grown_trans HTG.out (World.grownBy_alloc wt (.cells #[.string ⟨#[45, 45]⟩, .string ⟨#[45]⟩, .string ⟨#[]⟩] 9) (some R)))
                go_wp2_with fail
                refine HOF.out.mono ?_
                rintro e wo ⟨u, hu, rfl, ho1, ho2⟩
                have hus : u.size ≤ 2 := by
                  simp at hu
                  rcases hu with rfl | rfl | rfl <;> decide
                have HO1 := Lib.hid ho1
                have HOG := Lib.hid (grown_trans HGA0.out ho2)
                clear hu ho1 ho2
                go_wp2_with fail
                go_ret
                exact ⟨_, _, rfl, by first | omega | (simp only [ByteArray.size_append]; omega) | (simp only [ByteArray.size_append, sz1]; omega), HO1.out, by omega, HOG.out⟩
              · have hv0' : ((v : Int) == 0) = false := by simp; omega
                have hv1' : ((v : Int) == 1) = false := by simp; omega
                go_wp2_with fail
                go_ret
                exact ⟨_, _, rfl, by first | omega | (simp only [ByteArray.size_append]; omega) | (simp only [ByteArray.size_append, sz1]; omega), HT1.out, by omega, HTG.out⟩
end Go.Proofs.YtehadbpbkenccaaGreatDoor

namespace Go.Proofs.YtehadbpbkenccaaGreatDoor
open Go.ChangeShapes Go.WideShapes Go.ChangeAt Go.RowKit

/-- A drawer's own row of bytes. -/
def Own8 (w : World) (B : Nat) (v : Value) (L : List UInt8) : Prop := w.ownsRow B 5 1 v L.length (L.map e8)
def ap24 (ts : Array TypeId) (ty : TypeId) (args : Array Value) : Sem Value := Builtin.append_ ts ty args
theorem ap24_fold (ts : Array TypeId) (ty : TypeId) (args : Array Value) : Builtin.append_ ts ty args = ap24 ts ty args := rfl
theorem u8_info24 : (Tryz.prog.info? 5).map (fun i => (i.zero, i.size, i.bytes)) = some (some (.int .u8 0), 1, 1) := by kernel_rfl
theorem own8_step {V : World} {B : Nat} {v : Value} {L : List UInt8} (h : Own8 V B v L) (hB : B ≤ V.heap.size) (hl : L.length ≤ 3000) (c : UInt8) (x : Int) (hx : (c.toNat : Int) = x) :
    ∃ v' w', (∀ ty, (ap24 #[22, 22] ty #[v, .slice (some ⟨V.heap.size, 0, none⟩) 1 1]).run Tryz.prog (V.alloc (.cells #[.int .u8 x] 5)) = .ok v' w') ∧ Own8 w' B v' (L ++ [c]) ∧ (V.alloc (.cells #[.int .u8 x] 5)).grownBy w' v.ownBlock := by
  subst hx
  obtain ⟨i0, hi, hz0, hz1, hz2⟩ := info_parts u8_info24
  obtain ⟨v', w', hrun, hown, hgr, _⟩ := run_append_own (P := Tryz.prog) (V.alloc (.cells #[.int .u8 (c.toNat : Int)] 5)) B 22 22 5 i0 (.int .u8 0) 1 1 Tryz.underlying22 hi hz0 hz1 hz2 rfl (by decide) v L.length (L.map e8) (World.ownsRow.alloc h _) ⟨V.heap.size, 0, none⟩ 1 1 [.int .u8 (c.toNat : Int)] rfl (one_cell V _ _) (by simp [Value.oneCell']) (by unfold maxLen; omega) (by omega) (by simp; omega)
  refine ⟨v', w', fun _ => hrun, ?_, hgr⟩
  unfold Own8
  simpa [e8] using hown
theorem own8_str {w : World} {B : Nat} {v : Value} {L : List UInt8} (h : Own8 w B v L) (hp : 0 < L.length) : (convert 22 9 v).run Tryz.prog w = .ok (.string (bs L)) w := by
  obtain ⟨g, cap, rfl, _⟩ : ∃ g cap, v = .slice (some ⟨g, 0, none⟩) L.length cap ∧ True := by
    rcases h.2 with ⟨e, h0⟩ | ⟨g, cap, cur, e, _⟩
    · omega
    · exact ⟨g, cap, e, trivial⟩
  refine run_convert_bytes_back (P := Tryz.prog) w 22 9 5 ⟨g, 0, none⟩ cap L Tryz.underlying22 Tryz.underlying5 Tryz.underlying9 fun j hj => ?_
  exact World.ownsRow.cells h rfl j _ (by simp [hj, e8])
theorem grown_own {w V w' : World} {R : Nat} {o : Obj} {row : Option Nat} (h : w.grownBy V (some R)) (hg : (V.alloc o).grownBy w' row) (hk : ∀ k, row = some k → w.heap.size ≤ k) : w.grownBy w' (some R) := by
  have hs := h.size
  refine ⟨hg.os.trans h.os, hg.tape.trans h.tape, hg.output.trans h.output, by have := hg.size; simp at this; omega, fun i hi hr => ?_⟩
  have h1 := hg.block i (by simp; omega) (fun e => by have := hk i e.symm; omega)
  exact h1.trans ((Below.heap_alloc V o i (by omega)).trans (h.block i hi hr))

/-- What the drawer of texts leaves. -/
def TextD (R n c p : Nat) (A : Option Addr) (w : World) (e : Ending) (w' : World) : Prop := ∃ s p', e = .returned (.string s) ∧ s.size ≤ 100 ∧ RdAt w' R A n c p' ∧ p' ≤ p + 100 ∧ w.grownBy w' (some R)

attribute [local go_sem ↓] ap24_fold in
set_option maxRecDepth 10000 in
set_option maxHeartbeats 4000000 in
theorem text92_any (R n c H p : Nat) (A : Option Addr) (w : World) (hR : RdAt w R A n c p) (hb : Byt w H A n) (hH : H ≤ R) (hp : p ≤ 80000) (hn : n ≤ 2000) :
    Calls Tryz.prog 19 #[.pointer (some ⟨R, 0, none⟩)] w (TextD R n c p A w) := by
  have HP := Lib.hid (fun V q k (h1 : RdAt V R A n c q) (h2 : Byt V H A n) (h3 : q ≤ 100000) (h4 : 1 ≤ k) (h5 : k ≤ 1000) => pick_any R n c H q k A V h1 h2 hH h3 hn h4 h5)
  have HS := Lib.hid (size91_any R n c H p 7 A w hR hb hH (by omega) hn (by omega) (by omega))
  have HB := Lib.hid hb
  have hRw := hR.lt
  clear hR hb
  go_enter Tryz.func19, Tryz.ntmps19
  go_wp2_with fail
  refine HS.out.mono ?_
  rintro e w1 ⟨⟨m, hm3, hm7, rfl⟩, h1, h2, h3⟩
  have HB1 := Lib.hid (HB.out.grown h2 hH)
  have HG1 := Lib.hid h2
  have HOF := Lib.hid (of91t_any R n c H (p + 1) m A w1 h1 HB1.out hH (by omega) hn (by omega) hm7)
  have hR1 := h1.lt
  clear h1 h2 HS
  go_wp2_with fail
  refine HOF.out.mono ?_
  rintro e w2 ⟨av, l, q2, rfl, hown, ⟨hll, hof, h21, hq2⟩, h22⟩
  have hring := ofL_ring hll hof hm3 hm7
  have hin : Hid (∀ j, j < m → 0 ≤ l.getD j 0 ∧ l.getD j 0 < 7) := fun j hj => by
    have := hring.1.2.2.1 (l.getD j 0) (getD_mem l j (by omega))
    omega
  obtain ⟨g, cap, rfl, hgB, hgc⟩ : ∃ g cap, av = .slice (some ⟨g, 0, none⟩) m cap ∧ w1.heap.size ≤ g ∧ g < w2.heap.size := by
    rcases hown.2 with ⟨e, h0⟩ | ⟨g, cap, cur, e, h1, h2, _⟩
    · omega
    · exact ⟨g, cap, by rw [e, hll], h1, (Array.getElem?_eq_some_iff.1 h2).1⟩
  have hcell : Hid (∀ j, j < m → w2.cell? ⟨g, j, none⟩ = some (.int .i64 (l.getD j 0))) := fun j hj => by
    have := World.ownsRow.cells hown rfl j (.int .i64 (l.getD j 0)) (by simp [ints, List.getD_eq_getElem?_getD, hll, hj])
    rw [show (⟨g, 0, none⟩ : Addr).add j = ⟨g, j, none⟩ by unfold Addr.add; by_cases h : j = 0 <;> simp [h]] at this
    exact this
  have hgR : g ≠ R := by omega
  have HG2 := Lib.hid (grown_trans HG1.out h22)
  have HB2 := Lib.hid (HB.out.grown HG2.out hH)
  have HR2 := Lib.hid h21
  clear hown hll hof hring h21 h22 HOF HB1 HG1
  go_wp2_with fail
  refine (HP.out w2 q2 m HR2.out HB2.out (by omega) (by omega) (by omega)).mono ?_
  rintro e w3 ⟨⟨k, hk, rfl⟩, h31, h32, h33⟩
  have HR3 := Lib.hid h31
  have HG3 := Lib.hid (grown_trans HG2.out h32)
  have HB3 := Lib.hid (HB.out.grown HG3.out hH)
  have hcell3 : Hid (∀ j, j < m → w3.cell? ⟨g, j, none⟩ = some (.int .i64 (l.getD j 0))) := fun j hj => h32.cell (hcell.out j hj) (fun e => hgR (by have e1 : g = R := Option.some.inj e; exact e1))
  have hR3 := h31.lt
  have hw3 : w.heap.size ≤ w3.heap.size := HG3.out.size
  have hg3 : g < w3.heap.size := by omega
  have HO0 : Hid (Own8 (w3.alloc (.cells #[] 5)) w3.heap.size (.slice (some ⟨w3.heap.size, 0, none⟩) 0 0) []) := World.ownsRow_lit w3 #[] 0 (Nat.le_refl _) (by unfold maxLen; omega) rfl
  have HR4 : Hid (RdAt (w3.alloc (.cells #[] 5)) R A n c (q2 + 1)) := HR3.out.same (Below.heap_alloc w3 _ R hR3)
  have HG4 : Hid (w.grownBy (w3.alloc (.cells #[] 5)) (some R)) := grown_trans HG3.out (World.grownBy_alloc w3 _ _)
  have HB4 := Lib.hid (HB.out.grown HG4.out hH)
  have hcell4 : Hid (∀ j, j < m → (w3.alloc (.cells #[] 5)).cell? ⟨g, j, none⟩ = some (.int .i64 (l.getD j 0))) := fun j hj => (World.cell?_of_block (a := ⟨g, j, none⟩) (Below.heap_alloc w3 _ g hg3)).trans (hcell3.out j hj)
  obtain ⟨B, hBe⟩ : ∃ B, B = w3.heap.size := ⟨_, rfl⟩
  have hRB : R < B := by omega
  have hgB : g < B := by omega
  have hwB : w.heap.size ≤ B := by omega
  have hBW : B ≤ (w3.alloc (.cells #[] 5)).heap.size := by simp; omega
  rw [← hBe] at HO0
  have HBE := Lib.hid hBe
  clear h31 h32 h33 HR3 HG3 HB3 hcell hcell3 HR2 HG2 HB2 hg3 hw3 hR3 hBe hR1 h3
  go_wp2_with fail
  rw [← HBE.out]
  generalize hW0 : w3.alloc (.cells #[] 5) = W0 at *
  have HW0 := Lib.hid hW0
  clear hW0
  go_loopw [5, 6] (fun v i wr => ∃ (j : Nat) (L : List UInt8), j ≤ m ∧ i = .int .i64 j ∧ L.length = j ∧ Hid (Own8 wr B v L) ∧ Hid (∀ j, j < m → wr.cell? ⟨g, j, none⟩ = some (.int .i64 (l.getD j 0))) ∧ Hid (RdAt wr R A n c (q2 + 1)) ∧ Hid (w.grownBy wr (some R)) ∧ B ≤ wr.heap.size) (fun _ i _ => m - (intOf i).toNat)
  case atStart => exact ⟨0, [], Nat.zero_le _, rfl, rfl, HO0, hcell4, HR4, HG4, hBW⟩
  case round =>
    obtain ⟨j, L, hj, rfl, hL, HO, HC, HR, HG, hBr⟩ := hrel
    clear HO0 hcell4 HR4 HG4 HB4 hBW
    by_cases hlt : j < m
    · have hr : (j + k) % m < m := Nat.mod_lt _ (by omega)
      have ht : Int.tmod ((j : Int) + (k : Int)) (m : Int) = (((j + k) % m : Nat) : Int) := by rw [Int.tmod_eq_emod_of_nonneg (by omega)]; simp
      obtain ⟨r, hre⟩ : ∃ r, r = (j + k) % m := ⟨_, rfl⟩
      rw [← hre] at ht hr
      have hc := HC.out r hr
      obtain ⟨x0, x7⟩ := hin.out r hr
      obtain ⟨x, hx⟩ : ∃ x, x = l.getD r 0 := ⟨_, rfl⟩
      rw [← hx] at hc x0 x7
      obtain ⟨v', w', hap, hown, hgr⟩ := own8_step HO.out hBr (by omega) (UInt8.ofNat (97 + x.toNat)) (97 + x) (by simp; omega)
      have HOW := Lib.hid hown
      have HGW := Lib.hid (grown_own HG.out hgr fun k hk => Nat.le_trans hwB (World.ownsRow.lt HO.out k hk).1)
      have hbk : ∀ i, i < B → w'.heap[i]? = wr.heap[i]? := fun i hi => (hgr.block i (by simp; omega) (fun e => by have := (World.ownsRow.lt HO.out i e.symm).1; omega)).trans (Below.heap_alloc wr _ i (by omega))
      have HRW := Lib.hid (HR.out.same (hbk R hRB))
      have HCW : Hid (∀ j, j < m → w'.cell? ⟨g, j, none⟩ = some (.int .i64 (l.getD j 0))) := fun j hj => (World.cell?_of_block (a := ⟨g, j, none⟩) (hbk g hgB)).trans (HC.out j hj)
      have hBw : B ≤ w'.heap.size := by have := hgr.size; simp at this; omega
      clear hown hgr hbk hre hx
      go_wp2_with fail
      go_roundw
      case rel => exact ⟨j + 1, _, by omega, by go_num, by simp [hL], HOW.out, HCW.out, HRW.out, HGW.out, hBw⟩
      case measure => simp [intOf]; omega
    · have hjm : j = m := by omega
      subst hjm
      have hst := own8_str HO.out (by omega)
      have hqs : (bs L).size = j := by rw [bs_size, hL]
      obtain ⟨q, hq⟩ : ∃ q, q = bs L := ⟨_, rfl⟩
      rw [← hq] at hst hqs
      have HRB := Lib.hid (HB.out.grown HG.out hH)
      have HRO := Lib.hid (row92_any R n c H A hH hn 7 q j (q2 + 1) wr hm7 hqs (by omega) hm7 (by omega) HR.out HRB.out)
      clear HO HC hq hL
      go_wp2_with fail
      refine HRO.out.mono ?_
      rintro e w5 ⟨s, p5, rfl, hs5, h51, hp5, h52⟩
      have HG5 := Lib.hid (grown_trans HG.out h52)
      have HB5 := Lib.hid (HB.out.grown HG5.out hH)
      have HR5 := Lib.hid h51
      clear h51 h52 HRO hst HR HG HRB
      go_wp2_with fail
      refine (HP.out w5 p5 24 HR5.out HB5.out (by omega) (by omega) (by omega)).mono ?_
      rintro e wt ⟨⟨v, hv, rfl⟩, ht1, ht2, ht3⟩
      have HT1 := Lib.hid ht1
      have HTG := Lib.hid (grown_trans HG5.out ht2)
      have HTB := Lib.hid (HB.out.grown HTG.out hH)
      have hRt : R < wt.heap.size := ht1.lt
      clear ht1 ht2 ht3
      by_cases hv0 : v = 0
      · subst hv0
        have HOF := Lib.hid (of_any R n c H (p5 + 1) wt.heap.size 3 A [⟨#[41]⟩, ⟨#[97]⟩, ⟨#[45]⟩] (wt.alloc (.cells #[.string ⟨#[41]⟩, .string ⟨#[97]⟩, .string ⟨#[45]⟩] 9)) (HT1.out.same (Below.heap_alloc wt _ R hRt)) (HTB.out.grown (World.grownBy_alloc wt _ (some R)) hH) hH (by omega) hn rfl
          (fun j hj => by
            have hj3 : j < 3 := hj
            obtain rfl | rfl | rfl : j = 0 ∨ j = 1 ∨ j = 2 := by omega
            all_goals simp) (by omega) (by omega) (by omega))
        have HGA0 := Lib.hid (grown_trans HTG.out (World.grownBy_alloc wt (.cells #[.string ⟨#[41]⟩, .string ⟨#[97]⟩, .string ⟨#[45]⟩] 9) (some R)))
        go_wp2_with fail
        refine HOF.out.mono ?_
        rintro e wo ⟨u, hu, rfl, ho1, ho2⟩
        have hus : u.size ≤ 2 := by
          simp at hu
          rcases hu with rfl | rfl | rfl <;> decide
        have HO1 := Lib.hid ho1
        have HOG := Lib.hid (grown_trans HGA0.out ho2)
        clear hu ho1 ho2
        go_wp2_with fail
        go_ret
        exact ⟨_, _, rfl, by rw [ByteArray.size_append]; omega, HO1.out, by omega, HOG.out⟩
      · by_cases hv1 : v = 1
        · subst hv1
          have HOF := Lib.hid (of_any R n c H (p5 + 1) wt.heap.size 9 A [⟨#[]⟩, ⟨#[120]⟩, ⟨#[40, 97, 98, 41]⟩, ⟨#[40, 97, 98, 100, 41]⟩, ⟨#[40, 97, 98, 40, 99, 41, 41]⟩, ⟨#[97, 98, 99]⟩, ⟨#[45, 40, 97, 98, 99]⟩, ⟨#[40, 40, 97, 98, 99, 41, 41]⟩, ⟨#[40, 97, 97, 98, 99, 41]⟩] (wt.alloc (.cells #[.string ⟨#[]⟩, .string ⟨#[120]⟩, .string ⟨#[40, 97, 98, 41]⟩, .string ⟨#[40, 97, 98, 100, 41]⟩, .string ⟨#[40, 97, 98, 40, 99, 41, 41]⟩, .string ⟨#[97, 98, 99]⟩, .string ⟨#[45, 40, 97, 98, 99]⟩, .string ⟨#[40, 40, 97, 98, 99, 41, 41]⟩, .string ⟨#[40, 97, 97, 98, 99, 41]⟩] 9)) (HT1.out.same (Below.heap_alloc wt _ R hRt)) (HTB.out.grown (World.grownBy_alloc wt _ (some R)) hH) hH (by omega) hn rfl
            (fun j hj => by
              have hj9 : j < 9 := hj
              obtain rfl | rfl | rfl | rfl | rfl | rfl | rfl | rfl | rfl : j = 0 ∨ j = 1 ∨ j = 2 ∨ j = 3 ∨ j = 4 ∨ j = 5 ∨ j = 6 ∨ j = 7 ∨ j = 8 := by omega
              all_goals simp) (by omega) (by omega) (by omega))
          have HGA0 := Lib.hid (grown_trans HTG.out (World.grownBy_alloc wt (.cells #[.string ⟨#[]⟩, .string ⟨#[120]⟩, .string ⟨#[40, 97, 98, 41]⟩, .string ⟨#[40, 97, 98, 100, 41]⟩, .string ⟨#[40, 97, 98, 40, 99, 41, 41]⟩, .string ⟨#[97, 98, 99]⟩, .string ⟨#[45, 40, 97, 98, 99]⟩, .string ⟨#[40, 40, 97, 98, 99, 41, 41]⟩, .string ⟨#[40, 97, 97, 98, 99, 41]⟩] 9) (some R)))
          go_wp2_with fail
          refine HOF.out.mono ?_
          rintro e wo ⟨u, hu, rfl, ho1, ho2⟩
          have hus : u.size ≤ 7 := by
            simp at hu
            rcases hu with rfl | rfl | rfl | rfl | rfl | rfl | rfl | rfl | rfl <;> decide
          have HO1 := Lib.hid ho1
          have HOG := Lib.hid (grown_trans HGA0.out ho2)
          clear hu ho1 ho2
          go_wp2_with fail
          go_ret
          exact ⟨_, _, rfl, by omega, HO1.out, by omega, HOG.out⟩
        · have hv0' : ((v : Int) == 0) = false := by simp; omega
          have hv1' : ((v : Int) == 1) = false := by simp; omega
          go_wp2_with fail
          go_ret
          exact ⟨_, _, rfl, by omega, HT1.out, by omega, HTG.out⟩

/-- What a drawer of one text leaves. -/
def WordD (w : World) (e : Ending) (w' : World) : Prop := ∃ s : ByteArray, e = .returned (.string s) ∧ s.size ≤ 100 ∧ Below w.heap.size w w'
set_option maxHeartbeats 1000000 in
theorem word92_any (n c H : Nat) (A : Option Addr) (w : World) (hb : Byt w H A n) (hH : H ≤ w.heap.size) (hnc : n ≤ c) (hc : c ≤ 9223372036854775807) :
    Calls Tryz.prog 8 #[.slice A n c] w (WordD w) := by
  have HOP := Lib.hid (openS_any n c H A w hb hH hnc hc)
  clear hb
  go_enter Tryz.func8, Tryz.ntmps8
  go_wp2_with fail
  refine HOP.out.mono ?_
  rintro e w1 ⟨rfl, ⟨n', hn', h1, h2⟩, hb1⟩
  have HT := Lib.hid (text92_any w.heap.size n' c H 0 A w1 h1 h2 hH (by omega) hn')
  have HB1 := Lib.hid hb1
  have hlt := h1.lt
  clear h1 h2 hb1 HOP
  go_wp2_with fail
  refine HT.out.mono ?_
  rintro e w2 ⟨s, q, rfl, hs, h1, hq, hg⟩
  have HB2 := Lib.hid (below_grown HB1.out hg hlt)
  clear h1 hg HB1 HT
  go_wp2
  go_ret
  exact ⟨s, rfl, hs, HB2.out⟩
theorem drawTermTidy_any (n c H : Nat) (A : Option Addr) (w : World) (hb : Byt w H A n) (hH : H ≤ w.heap.size) (hnc : n ≤ c) (hc : c ≤ 9223372036854775807) :
    Calls Tryz.prog 4 #[.slice A n c] w (WordD w) := by
  have HP := Lib.hid (word92_any n c H A w hb hH hnc hc)
  clear hb
  go_enter Tryz.func4, Tryz.ntmps4
  go_wp2_with fail
  refine HP.out.mono ?_
  rintro e w2 ⟨s, rfl, hs, hb⟩
  have HB := Lib.hid hb
  clear hb HP
  go_wp2
  go_ret
  exact ⟨s, rfl, hs, HB.out⟩
end Go.Proofs.YtehadbpbkenccaaGreatDoor
