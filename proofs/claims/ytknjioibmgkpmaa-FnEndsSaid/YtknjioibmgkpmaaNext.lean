/- The next point: the program's array, the model's list. -/
import Derived.Test.YtknjioibmgkpmaaOwn
import Derived.IntWalk
namespace Go.Proofs.Ytknjioibmgkpmaa
open Go.ChangeShapes Go.WideShapes Go.ChangeAt Go.RowKit

theorem box_world (w : World) (c : Array Value) (P : List Int) (hc : c = (ints P).toArray) (W : World) (hW : W = w.alloc (.cells c 55)) :
    Arr W w.heap.size P ∧ Below w.heap.size w W ∧ W.heap.size = w.heap.size + 1 := by
  subst hc; subst hW
  exact ⟨heap_alloc_new w _, (Below.refl _ _).alloc (Nat.le_refl _) _, by simp⟩


/-- The steps from x to y. -/
def stepsI (l : List Int) (x y : Int) : Int := ((l.idxOf y : Int) - (l.idxOf x : Int)) % (l.length : Int)

set_option maxHeartbeats 1000000 in
theorem steps_any (l : List Int) (x y : Int) (w : World) (h1 : 1 ≤ l.length) (hl : l.length ≤ 7) (hp : ∀ x ∈ l, 0 ≤ x) (hm : x ∈ l) (hm' : y ∈ l) :
    Calls Try.prog 72 #[agp l, .int .i64 x, .int .i64 y] w fun e w' => e = .returned (.int .i64 (stepsI l x y)) ∧ Below w.heap.size w w' := by
  obtain ⟨a0, a1, a2, a3, a4, a5, a6, hP⟩ := seven (padR_length l hl)
  have HS := fun W => Lib.hid (size_any l W hl hp)
  have HPX := fun W => Lib.hid (place_any l x W hl hm)
  have HPY := fun W => Lib.hid (place_any l y W hl hm')
  have hidx : l.idxOf x < l.length := List.idxOf_lt_length_of_mem hm
  have hidy : l.idxOf y < l.length := List.idxOf_lt_length_of_mem hm'
  unfold agp at HS HPX HPY ⊢
  unfold stepsI
  rw [hP] at HS HPX HPY ⊢
  simp only [ints, List.map_cons, List.map_nil] at HS HPX HPY ⊢
  have HSS := Lib.hid HS
  have HXX := Lib.hid HPX
  have HYY := Lib.hid HPY
  clear hP hp HS HPX HPY hm hm'
  generalize l.length = n at *
  generalize l.idxOf x = s at *
  generalize l.idxOf y = t at *
  go_enter Try.func72, Try.ntmps72
  go_wp2_with (go_at_call 71; refine ((HSS.out _).out).mono ?_; rintro e w' ⟨rfl, rfl⟩)
  obtain ⟨W0, hW0⟩ : ∃ W, W = w.alloc (.cells #[.int .i64 a0, .int .i64 a1, .int .i64 a2, .int .i64 a3, .int .i64 a4, .int .i64 a5, .int .i64 a6] 55) := ⟨_, rfl⟩
  obtain ⟨W, hW⟩ : ∃ W, W = W0.alloc (.cells #[.int .i64 a0, .int .i64 a1, .int .i64 a2, .int .i64 a3, .int .i64 a4, .int .i64 a5, .int .i64 a6] 55) := ⟨_, rfl⟩
  rw [← hW0, ← hW]
  obtain ⟨k1, k2, k3⟩ := box_world w _ [a0, a1, a2, a3, a4, a5, a6] rfl W0 hW0
  have k4 : Arr W w.heap.size [a0, a1, a2, a3, a4, a5, a6] := by rw [hW]; exact k1.alloc _
  have k5 : W.heap.size = w.heap.size + 2 := by rw [hW]; simp [k3]
  obtain ⟨c0, c1, c2, c3, c4, c5, c6⟩ := cells7 k4
  have HB := Lib.hid (show Below w.heap.size w W by rw [hW]; exact k2.alloc (by omega) _)
  clear k1 k2 k3 k4 hW hW0
  have hBW : w.heap.size < W.heap.size := by omega
  generalize hB : w.heap.size = B at *
  have HBB := Lib.hid hB
  have HK5 := Lib.hid k5
  clear k5 hB
  have hw1 : IntKind.i64.wrap ((t : Int) - (s : Int)) = (t : Int) - (s : Int) := IntWalk.i64_in _ (by omega)
  have hw2 : IntKind.i64.wrap ((t : Int) - (s : Int) + (n : Int)) = (t : Int) - (s : Int) + (n : Int) := IntWalk.i64_in _ (by omega)
  have htm : Int.tmod ((t : Int) - (s : Int) + (n : Int)) (n : Int) = ((t : Int) - (s : Int) + (n : Int)) % (n : Int) := Int.tmod_eq_emod_of_nonneg (by omega)
  go_region_with (first
    | (go_at_call_of 87 (Value.int IntKind.i64 y); refine ((HYY.out _).out).mono ?_; rintro e w' ⟨rfl, rfl⟩)
    | (go_at_call_of 87 (Value.int IntKind.i64 x); refine ((HXX.out _).out).mono ?_; rintro e w' ⟨rfl, rfl⟩))
  all_goals
    clear hw1 hw2 htm c0 c1 c2 c3 c4 c5 c6
    go_wp2
    go_ret
    exact ⟨rfl, by rw [HBB.out]; exact ((HB.out.alloc (by omega) _).alloc (by simp; omega) _).drew⟩
end Go.Proofs.Ytknjioibmgkpmaa
