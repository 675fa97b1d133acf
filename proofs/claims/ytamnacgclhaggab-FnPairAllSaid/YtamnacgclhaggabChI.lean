/- How many pairs of a list part each other: the program's count. -/
import Derived.Test.YtamnacgclhaggabChS
import Derived.Test.YtamnacgclhaggabEach2
namespace Go.Proofs.Ytamnacgclhaggab
open Go.ChangeShapes Go.WideShapes Go.ChangeAt Go.RowKit

def meetB (x y z u : Int) : Bool := (x == z) || ((x == u) || ((y == z) || (y == u)))
theorem four_meet {n x y z u : Int} (h : Two n [x, y]) (h' : Two n [z, u]) : four n [x, y, z, u] = !meetB x y z u := by
  have a := (twoL2 n x y).1 h
  have b := (twoL2 n z u).1 h'
  rw [four, Bool.eq_iff_iff]
  simp only [decide_eq_true_eq, Bool.not_eq_true', meetB, Bool.or_eq_false_iff, beq_eq_false_iff_ne]
  unfold Four Pts
  simp only [List.mem_cons, List.not_mem_nil, or_false, List.nodup_cons, List.nodup_nil, and_true, forall_eq_or_imp, forall_eq, List.length_cons, List.length_nil]
  constructor
  · rintro ⟨_, _, h1, h2, h3, _⟩
    refine ⟨fun e => h1 (.inr (.inl e)), fun e => h1 (.inr (.inr e)), fun e => h2 (.inl e), fun e => h2 (.inr e)⟩
  · rintro ⟨h1, h2, h3, h4⟩
    refine ⟨trivial, ⟨by omega, by omega, by omega, by omega⟩, ?_, ?_, ?_, by simp⟩
    · rintro (e | e | e)
      · exact a.2.2 e
      · exact h1 e
      · exact h2 e
    · rintro (e | e)
      · exact h3 e
      · exact h4 e
    · exact fun e => b.2.2 e

set_option maxRecDepth 10000 in
set_option maxHeartbeats 1000000 in
theorem meets_any (x y z u : Int) (w : World) :
    Calls Try.prog 105 #[.agg (ints [x, y]).toArray, .agg (ints [z, u]).toArray] w fun e w' => e = .returned (.bool (meetB x y z u)) ∧ Below w.heap.size w w' := by
  simp only [ints, List.map_cons, List.map_nil]
  obtain ⟨W0, hW0⟩ : ∃ W, W = w.alloc (.cells (ints [x, y]).toArray 57) := ⟨_, rfl⟩
  obtain ⟨W, hW⟩ : ∃ W, W = W0.alloc (.cells (ints [z, u]).toArray 57) := ⟨_, rfl⟩
  have k1 : Blk 57 W0 w.heap.size [x, y] := by rw [hW0]; exact heap_alloc_new w _
  have k0 : W0.heap.size = w.heap.size + 1 := by rw [hW0]; simp
  have k2 : Blk 57 W w.heap.size [x, y] := by rw [hW]; exact k1.alloc _
  have k3 : Blk 57 W (w.heap.size + 1) [z, u] := by rw [hW, ← k0]; exact Blk.new W0 _
  have kb : Below w.heap.size w W := by rw [hW, hW0]; exact ((Below.refl _ _).alloc (Nat.le_refl _) _).alloc (by simp) _
  have x0 := k2.cell (i := 0) (by simp)
  have x1 := k2.cell (i := 1) (by simp)
  have y0 := k3.cell (i := 0) (by simp)
  have y1 := k3.cell (i := 1) (by simp)
  simp only [List.getD_cons_zero, List.getD_cons_succ] at x0 x1 y0 y1
  have HB := Lib.hid kb
  simp only [ints, List.map_cons, List.map_nil] at hW0 hW
  unfold meetB
  clear k1 k2 k3 kb k0
  cases h1 : (x == z)
  · cases h2 : (x == u)
    · cases h3 : (y == z)
      all_goals
        go_enter Try.func105, Try.ntmps105
        go_wp2_with fail
        rw [← hW0, ← hW]
        clear hW0 hW
        go_wp2
        go_ret
        exact ⟨rfl, HB.out⟩
    · go_enter Try.func105, Try.ntmps105
      go_wp2_with fail
      rw [← hW0, ← hW]
      clear hW0 hW
      go_wp2
      go_ret
      exact ⟨rfl, HB.out⟩
  · go_enter Try.func105, Try.ntmps105
    go_wp2_with fail
    rw [← hW0, ← hW]
    clear hW0 hW
    go_wp2
    go_ret
    exact ⟨rfl, HB.out⟩

theorem elem_pairs : Try.prog.elem 99 = 57 := by kernel_rfl
theorem head_pairs (W : World) (g n c k : Nat) (hk : k ≤ c) :
    (Instr.slice 99 (.slice (some ⟨g, 0, none⟩) n c) none (some (.int .i64 (k : Int))) none).run Try.prog W = .ok (.slice (some ⟨g, 0, none⟩) k c) W := by
  obtain ⟨i, hi, _⟩ := info_parts readPair_info
  have h := run_slice_h (P := Try.prog) W 99 (some ⟨g, 0, none⟩) n c (by rw [elem_pairs]; exact Try.underlying99) .i64 (k : Int) (by omega) (by omega)
  rw [h, elem_pairs, run_sizeOf W hi, Result.andThen_ok]
  simp [sliced, Addr.add]

end Go.Proofs.Ytamnacgclhaggab
