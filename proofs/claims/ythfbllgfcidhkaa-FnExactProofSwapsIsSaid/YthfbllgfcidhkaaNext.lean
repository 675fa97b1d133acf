/- The next point: the program's array, the model's list. -/
import Derived.Test.YthfbllgfcidhkaaOwn
import Derived.IntWalk
namespace Go.Proofs.Ythfbllgfcidhkaa
open Go.ChangeShapes Go.WideShapes Go.ChangeAt Go.RowKit

theorem box_world (w : World) (c : Array Value) (P : List Int) (hc : c = (ints P).toArray) (W : World) (hW : W = w.alloc (.cells c 59)) :
    Arr W w.heap.size P ∧ Below w.heap.size w W ∧ W.heap.size = w.heap.size + 1 := by
  subst hc; subst hW
  exact ⟨heap_alloc_new w _, (Below.refl _ _).alloc (Nat.le_refl _) _, by simp⟩

set_option maxHeartbeats 1000000 in
theorem next_any (l : List Int) (x : Int) (w : World) (h1 : 1 ≤ l.length) (hl : l.length ≤ 7) (hp : ∀ x ∈ l, 0 ≤ x) (hm : x ∈ l) :
    Calls Try.prog 95 #[agp l, .int .i64 x] w fun e w' => e = .returned (.int .i64 (l.getD ((l.idxOf x + 1) % l.length) 0)) ∧ Below w.heap.size w w' := by
  obtain ⟨a0, a1, a2, a3, a4, a5, a6, hP⟩ := seven (padR_length l hl)
  have HS := fun W => Lib.hid (size_any l W hl hp)
  have HPL := fun W => Lib.hid (place_any l x W hl hm)
  have hidx : l.idxOf x < l.length := List.idxOf_lt_length_of_mem hm
  have hmod : (l.idxOf x + 1) % l.length < l.length := Nat.mod_lt _ h1
  have hga : ([a0, a1, a2, a3, a4, a5, a6] : List Int).getD ((l.idxOf x + 1) % l.length) 0 = l.getD ((l.idxOf x + 1) % l.length) 0 := by rw [← hP]; exact padR_get l _ hmod
  unfold agp at HS HPL ⊢
  rw [hP] at HS HPL ⊢
  simp only [ints, List.map_cons, List.map_nil] at HS HPL ⊢
  have HSS := Lib.hid HS
  have HPP := Lib.hid HPL
  rw [← hga]
  clear hP hp HS HPL hm hga
  generalize l.length = n at *
  generalize l.idxOf x = s at *
  go_enter Try.func95, Try.ntmps95
  go_wp2_with fail
  obtain ⟨W, hW⟩ : ∃ W, W = w.alloc (.cells #[.int .i64 a0, .int .i64 a1, .int .i64 a2, .int .i64 a3, .int .i64 a4, .int .i64 a5, .int .i64 a6] 59) := ⟨_, rfl⟩
  rw [← hW]
  obtain ⟨k1, k2, k3⟩ := box_world w _ [a0, a1, a2, a3, a4, a5, a6] rfl W hW
  have hcell := k1.cell (i := (s + 1) % n) (by simp; omega)
  obtain ⟨c0, c1, c2, c3, c4, c5, c6⟩ := cells7 k1
  have HB := Lib.hid k2
  clear k1 k2 hW
  generalize hy : ([a0, a1, a2, a3, a4, a5, a6] : List Int).getD ((s + 1) % n) 0 = y at *
  have HY := Lib.hid hy
  clear hy
  have hBW : w.heap.size < W.heap.size := by omega
  generalize hB : w.heap.size = B at *
  have HBB := Lib.hid hB
  have HK3 := Lib.hid k3
  clear k3 hB
  have hmi : ((s : Int) + 1) % (n : Int) < 7 := by
    have e : ((s : Int) + 1) % (n : Int) = (((s + 1) % n : Nat) : Int) := by simp
    rw [e]; omega
  have hmo : 0 ≤ ((s : Int) + 1) % (n : Int) := Int.emod_nonneg _ (by omega)
  have hw1 : IntKind.i64.wrap ((s : Int) + 1) = (s : Int) + 1 := IntWalk.i64_in _ (by omega)
  have htm : Int.tmod ((s : Int) + 1) (n : Int) = ((s : Int) + 1) % (n : Int) := Int.tmod_eq_emod_of_nonneg (by omega)
  have htn : (((s : Int) + 1) % (n : Int)).toNat = (s + 1) % n := by
    have e : ((s : Int) + 1) % (n : Int) = (((s + 1) % n : Nat) : Int) := by simp
    rw [e, Int.toNat_natCast]
  go_region_with (first
    | (go_at_call 93; refine ((HSS.out _).out).mono ?_; rintro e w' ⟨rfl, rfl⟩)
    | (go_at_call 94; refine ((HPP.out _).out).mono ?_; rintro e w' ⟨rfl, rfl⟩))
  all_goals
    clear hw1 htm htn hmi hmo hcell c0 c1 c2 c3 c4 c5 c6
    go_wp2
    go_ret
    exact ⟨by rw [HY.out]; rfl, by rw [HBB.out]; exact ((HB.out.alloc (by omega) _).alloc (by simp; omega) _).drew⟩

/-- The steps from x to y. -/
def stepsI (l : List Int) (x y : Int) : Int := ((l.idxOf y : Int) - (l.idxOf x : Int)) % (l.length : Int)

set_option maxHeartbeats 1000000 in
theorem steps_any (l : List Int) (x y : Int) (w : World) (h1 : 1 ≤ l.length) (hl : l.length ≤ 7) (hp : ∀ x ∈ l, 0 ≤ x) (hm : x ∈ l) (hm' : y ∈ l) :
    Calls Try.prog 99 #[agp l, .int .i64 x, .int .i64 y] w fun e w' => e = .returned (.int .i64 (stepsI l x y)) ∧ Below w.heap.size w w' := by
  obtain ⟨a0, a1, a2, a3, a4, a5, a6, hP⟩ := seven (padR_length l hl)
  have HS := fun W => Lib.hid (size_any l W hl hp)
  have HPX := fun W => Lib.hid (place_any l x W hl hm)
  have HPY := fun W => Lib.hid (place_any l y W hl hm')
  have hidx : l.idxOf x < l.length := List.idxOf_lt_length_of_mem hm
  have hidy : l.idxOf y < l.length := List.idxOf_lt_length_of_mem hm'
  unfold agp at HS HPX HPY ⊢
  unfold stepsI
  rw [hP] at HS HPX HPY ⊢
  simp only [ints, List.map_cons, List.map_nil] at HS HPX HPY ⊢
  have HSS := Lib.hid HS
  have HXX := Lib.hid HPX
  have HYY := Lib.hid HPY
  clear hP hp HS HPX HPY hm hm'
  generalize l.length = n at *
  generalize l.idxOf x = s at *
  generalize l.idxOf y = t at *
  go_enter Try.func99, Try.ntmps99
  go_wp2_with (go_at_call 93; refine ((HSS.out _).out).mono ?_; rintro e w' ⟨rfl, rfl⟩)
  obtain ⟨W0, hW0⟩ : ∃ W, W = w.alloc (.cells #[.int .i64 a0, .int .i64 a1, .int .i64 a2, .int .i64 a3, .int .i64 a4, .int .i64 a5, .int .i64 a6] 59) := ⟨_, rfl⟩
  obtain ⟨W, hW⟩ : ∃ W, W = W0.alloc (.cells #[.int .i64 a0, .int .i64 a1, .int .i64 a2, .int .i64 a3, .int .i64 a4, .int .i64 a5, .int .i64 a6] 59) := ⟨_, rfl⟩
  rw [← hW0, ← hW]
  obtain ⟨k1, k2, k3⟩ := box_world w _ [a0, a1, a2, a3, a4, a5, a6] rfl W0 hW0
  have k4 : Arr W w.heap.size [a0, a1, a2, a3, a4, a5, a6] := by rw [hW]; exact k1.alloc _
  have k5 : W.heap.size = w.heap.size + 2 := by rw [hW]; simp [k3]
  obtain ⟨c0, c1, c2, c3, c4, c5, c6⟩ := cells7 k4
  have HB := Lib.hid (show Below w.heap.size w W by rw [hW]; exact k2.alloc (by omega) _)
  clear k1 k2 k3 k4 hW hW0
  have hBW : w.heap.size < W.heap.size := by omega
  generalize hB : w.heap.size = B at *
  have HBB := Lib.hid hB
  have HK5 := Lib.hid k5
  clear k5 hB
  have hw1 : IntKind.i64.wrap ((t : Int) - (s : Int)) = (t : Int) - (s : Int) := IntWalk.i64_in _ (by omega)
  have hw2 : IntKind.i64.wrap ((t : Int) - (s : Int) + (n : Int)) = (t : Int) - (s : Int) + (n : Int) := IntWalk.i64_in _ (by omega)
  have htm : Int.tmod ((t : Int) - (s : Int) + (n : Int)) (n : Int) = ((t : Int) - (s : Int) + (n : Int)) % (n : Int) := Int.tmod_eq_emod_of_nonneg (by omega)
  go_region_with (first
    | (go_at_call_of 94 (Value.int IntKind.i64 y); refine ((HYY.out _).out).mono ?_; rintro e w' ⟨rfl, rfl⟩)
    | (go_at_call_of 94 (Value.int IntKind.i64 x); refine ((HXX.out _).out).mono ?_; rintro e w' ⟨rfl, rfl⟩))
  all_goals
    clear hw1 hw2 htm c0 c1 c2 c3 c4 c5 c6
    go_wp2
    go_ret
    exact ⟨rfl, by rw [HBB.out]; exact ((HB.out.alloc (by omega) _).alloc (by simp; omega) _).drew⟩
end Go.Proofs.Ythfbllgfcidhkaa
