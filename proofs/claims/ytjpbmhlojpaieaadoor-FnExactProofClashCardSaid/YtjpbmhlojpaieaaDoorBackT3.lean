/- ThreeBack of the model and of the program. -/
import Derived.Test.YtjpbmhlojpaieaaDoorGrow
import Derived.Test.YtjpbmhlojpaieaaDoorTelT
import Derived.Deep.RegionHeldLaw
import Derived.Deep.AppendLies
namespace Go.Proofs.YtjpbmhlojpaieaaDoor
open Go.ChangeShapes Go.WideShapes Go.ChangeAt Go.RowKit

/-- The three the other way. -/
def turn3 (l : List Int) : List Int := [l.getD 0 0, l.getD 2 0, l.getD 1 0]
def back3 (L : List (List Int)) : List (List Int) := L.map turn3
def backR (n : Int) (L : List (List Int)) : List (List Int) := if Tel n L then back3 L else []
theorem sumTo_small (L : List (List Int)) (h : ∀ l ∈ L, l.length ≤ 7) : ∀ k, k ≤ L.length → sumTo L k ≤ 7 * k
  | 0, _ => by simp [sumTo]
  | k + 1, hk => by
    have h1 := sumTo_small L h k (by omega)
    have h2 := h _ (rowK_mem (show k < L.length by omega))
    simp only [sumTo]; omega
theorem tot_small (L : List (List Int)) (h : ∀ l ∈ L, l.length ≤ 7) (hl : L.length ≤ 1000) : tot L ≤ 1048576 := by
  have := sumTo_small L h L.length (Nat.le_refl _)
  unfold tot; omega
theorem backR_tot (n : Int) (L : List (List Int)) : tot (backR n L) ≤ 1048576 := by
  unfold backR
  split
  · rename_i h
    refine tot_small _ (fun l hl => ?_) (by have := h.2.2.1; simp [back3]; omega)
    simp only [back3, List.mem_map] at hl
    obtain ⟨m, _, rfl⟩ := hl
    simp [turn3]
  · simp [tot, sumTo]
theorem back3_step (L : List (List Int)) (k : Nat) (h : k < L.length) : back3 (L.take k) ++ [turn3 (rowK L k)] = back3 (L.take (k + 1)) := by
  unfold back3
  rw [List.take_succ_eq_append_getElem h, List.map_append]
  simp only [rowK, List.getD, List.getElem?_eq_getElem h, Option.getD_some, List.map_cons, List.map_nil]

/-- The program's lists of threes. -/
theorem made_rows {w1 : World} {B n : Nat} {L : List (List Int)} {xs : List Value} (hown : w1.ownsRow B 22 1 (.slice (some ⟨B, 0, none⟩) n n) n xs) : Fill w1 B n L 0 := by
  rcases hown.2 with ⟨e, _⟩ | ⟨g, cap, cur, e, _, hg, _, _, hs, _⟩
  · cases e
  · injection e with e1 _ e3
    injection e1 with e1
    injection e1 with e1
    subst e1
    exact Fill.made hg (by rw [hs]; omega)

set_option maxRecDepth 10000 in
theorem tlist_any (x y z : Int) (D : Nat) (w : World) (hD : D ≤ w.heap.size + 1) :
    Calls Tryd.prog 40 #[.agg (ints [x, y, z]).toArray] w fun e w' => e = .returned (.slice (some ⟨w.heap.size + 1, 0, none⟩) 3 3) ∧ Own w' D (.slice (some ⟨w.heap.size + 1, 0, none⟩) 3 3) [x, y, z] ∧ Below w.heap.size w w' := by
  change Calls Tryd.prog 40 #[.agg #[.int .i64 x, .int .i64 y, .int .i64 z]] w _
  have ho := World.ownsRow_lit (base := D) (e := 3) (size := 1) (w.alloc (.cells (ints [x, y, z]).toArray 69)) (ints [x, y, z]).toArray 3 (by simp; omega) (by decide) (by simp)
  rw [show (w.alloc (.cells (ints [x, y, z]).toArray 69)).heap.size = w.heap.size + 1 by simp] at ho
  have HO := Lib.hid ho
  clear ho
  go_enter Tryd.func40, Tryd.ntmps40
  go_wp2
  go_ret
  exact ⟨by simp, HO.out, ((Below.refl _ _).alloc (Nat.le_refl _) _).alloc (by simp) _⟩

end Go.Proofs.YtjpbmhlojpaieaaDoor
