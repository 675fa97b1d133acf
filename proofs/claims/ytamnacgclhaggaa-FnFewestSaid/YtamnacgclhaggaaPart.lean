/- Two points part two other ones: the model's look, the program's look. -/
import Derived.Test.YtamnacgclhaggaaCC
import Derived.Test.YtamnacgclhaggaaPar
import Derived.Test.YtamnacgclhaggaaFour
namespace Go.Proofs.Ytamnacgclhaggaa
open Go.ChangeShapes Go.WideShapes Go.ChangeAt Go.RowKit

def partB (l t : List Int) : Bool := has3 l [t.getD 0 0, t.getD 2 0, t.getD 1 0] != has3 l [t.getD 0 0, t.getD 3 0, t.getD 1 0]

set_option maxHeartbeats 1000000 in
theorem l3Parts_any (A : Option Addr) (n c H : Nat) (l : List Int) (A' : Option Addr) (c' H' : Nat) (x y z u : Int) (w : World) (h : Rd w H A n l) (h' : Rd w H' A' 4 [x, y, z, u]) (h1 : 1 ≤ n) (hn : n ≤ 7) (hx : x ∈ l) (hy : y ∈ l) (hz : z ∈ l) (hu : u ∈ l) :
    Calls Try.prog 64 #[.slice A n c, .slice A' 4 c'] w fun e w' => e = .returned (.bool (partB l [x, y, z, u])) ∧ ∃ q, w' = w.drewN q := by
  have HY := Lib.hid (fun W (hW : Rd W H A n l) => (st_any A n c H l x y W hW h1 hn hx hy).mono (fun e w' (hh : e = .returned (.int .i64 (stepsI l x y)) ∧ W = w') => (⟨hh.1, hh.2.symm⟩ : e = .returned (.int .i64 (stepsI l x y)) ∧ w' = W)))
  have HZ := Lib.hid (fun W (hW : Rd W H A n l) => (st_any A n c H l x z W hW h1 hn hx hz).mono (fun e w' (hh : e = .returned (.int .i64 (stepsI l x z)) ∧ W = w') => (⟨hh.1, hh.2.symm⟩ : e = .returned (.int .i64 (stepsI l x z)) ∧ w' = W)))
  have HU := Lib.hid (fun W (hW : Rd W H A n l) => (st_any A n c H l x u W hW h1 hn hx hu).mono (fun e w' (hh : e = .returned (.int .i64 (stepsI l x u)) ∧ W = w') => (⟨hh.1, hh.2.symm⟩ : e = .returned (.int .i64 (stepsI l x u)) ∧ w' = W)))
  obtain ⟨b, o, rfl, _, c0, c1, c2, c3⟩ := rd4 h'
  have HR := Lib.hid (fun q => h.drewN q)
  have hr : partB l [x, y, z, u] = (decide (stepsI l x z < stepsI l x y) != decide (stepsI l x u < stepsI l x y)) := rfl
  rw [hr]
  clear hx hy hz hu h h' hr
  generalize stepsI l x y = s at *
  generalize stepsI l x z = t at *
  generalize stepsI l x u = v at *
  go_enter Try.func64, Try.ntmps64
  go_wp2
  go_quiet (first | (go_at_call_of 75 (Value.int IntKind.i64 y); refine Calls.quiet_of_same (HY.out _ (HR.out _))))
  have HR1 := Lib.hid (fun q => (HR.out nq).drewN q)
  have d0 : (w.drewN nq).cell? ⟨b, o, none⟩ = some (.int .i64 x) := c0
  have d2 : (w.drewN nq).cell? ⟨b, o + 2, none⟩ = some (.int .i64 z) := c2
  have d3 : (w.drewN nq).cell? ⟨b, o + 3, none⟩ = some (.int .i64 u) := c3
  clear c0 c1 c2 c3 HR HY
  generalize hW : w.drewN nq = W1 at *
  have HW := Lib.hid hW
  clear hW
  go_wp2
  go_quiet (first
    | (go_at_call_of 75 (Value.int IntKind.i64 z); refine Calls.quiet_of_same (HZ.out _ (HR1.out _)))
    | (go_at_call_of 75 (Value.int IntKind.i64 u); refine Calls.quiet_of_same (HU.out _ (HR1.out _))))
  go_wp2
  go_ret
  exact ⟨rfl, _, by rw [← HW.out, World.drewN_drewN]⟩

set_option maxRecDepth 10000 in
set_option maxHeartbeats 2000000 in
theorem parts_any (l : List Int) (x y z u : Int) (w : World) (h1 : 1 ≤ l.length) (hl : l.length ≤ 7) (hp : ∀ x ∈ l, 0 ≤ x) (hx : x ∈ l) (hy : y ∈ l) (hz : z ∈ l) (hu : u ∈ l) :
    Calls Try.prog 62 #[agp l, .agg (ints [x, y, z, u]).toArray] w fun e w' => e = .returned (.bool (partB l [x, y, z, u])) ∧ Below w.heap.size w w' := by
  obtain ⟨a0, a1, a2, a3, a4, a5, a6, hP⟩ := seven (padR_length l hl)
  have HY := fun W => Lib.hid (hasThree_any l x z y W h1 hl hp hx hz hy)
  have HZ := fun W => Lib.hid (hasThree_any l x u y W h1 hl hp hx hu hy)
  have hr : partB l [x, y, z, u] = (has3 l [x, z, y] != has3 l [x, u, y]) := rfl
  rw [hr]
  unfold agp at HY HZ ⊢
  rw [hP] at HY HZ ⊢
  simp only [ints, List.map_cons, List.map_nil] at HY HZ ⊢
  have HYY := Lib.hid HY
  have HZZ := Lib.hid HZ
  clear hP hp HY HZ hx hy hz hu hr
  generalize has3 l [x, z, y] = s at *
  generalize has3 l [x, u, y] = t at *
  obtain ⟨W0, hW0⟩ : ∃ W, W = w.alloc (.cells (ints [a0, a1, a2, a3, a4, a5, a6]).toArray 53) := ⟨_, rfl⟩
  obtain ⟨W, hW⟩ : ∃ W, W = W0.alloc (.cells (ints [x, y, z, u]).toArray 79) := ⟨_, rfl⟩
  have k1 : Arr W0 w.heap.size [a0, a1, a2, a3, a4, a5, a6] := by rw [hW0]; exact heap_alloc_new w _
  have k0 : W0.heap.size = w.heap.size + 1 := by rw [hW0]; simp
  have k2 : Arr W w.heap.size [a0, a1, a2, a3, a4, a5, a6] := by rw [hW]; exact k1.alloc _
  have k3 : Blk 79 W (w.heap.size + 1) [x, y, z, u] := by rw [hW, ← k0]; exact Blk.new W0 _
  have k5 : W.heap.size = w.heap.size + 2 := by rw [hW]; simp [k0]
  have kb : Below w.heap.size w W := by rw [hW, hW0]; exact ((Below.refl _ _).alloc (Nat.le_refl _) _).alloc (by simp) _
  have HB := Lib.hid kb
  have HK := Lib.hid (fun (V : World) (hV : Below (w.heap.size + 2) W V) => (⟨cells7 (k2.below hV (by omega)), (k3.below hV (by omega)).cell (i := 0) (by simp), (k3.below hV (by omega)).cell (i := 1) (by simp), (k3.below hV (by omega)).cell (i := 2) (by simp), (k3.below hV (by omega)).cell (i := 3) (by simp)⟩ : _ ∧ _ ∧ _ ∧ _ ∧ _))
  simp only [ints, List.map_cons, List.map_nil] at hW0 hW
  go_enter Try.func62, Try.ntmps62
  go_wp2
  rw [← hW0, ← hW]
  clear hW0 hW k1 k0 k2 k3 kb
  have HSZ := Lib.hid k5
  have hBW : w.heap.size + 2 ≤ W.heap.size := by omega
  clear k5
  generalize hB : w.heap.size = B at *
  have HBB := Lib.hid hB
  clear hB
  have HST := Lib.hid (fun (V V' : World) (h1 : Below (B + 2) W V) (h2 : Below V.heap.size V V') => h1.trans (h2.mono (by have := h1.size; omega)))
  go_region_held3 (fun V => ((V.cell? ⟨B, 0, none⟩ = some (.int .i64 a0) ∧ V.cell? ⟨B, 1, none⟩ = some (.int .i64 a1) ∧ V.cell? ⟨B, 2, none⟩ = some (.int .i64 a2) ∧ V.cell? ⟨B, 3, none⟩ = some (.int .i64 a3) ∧ V.cell? ⟨B, 4, none⟩ = some (.int .i64 a4) ∧ V.cell? ⟨B, 5, none⟩ = some (.int .i64 a5) ∧ V.cell? ⟨B, 6, none⟩ = some (.int .i64 a6)) ∧ V.cell? ⟨B + 1, 0, none⟩ = some (.int .i64 x) ∧ V.cell? ⟨B + 1, 1, none⟩ = some (.int .i64 y) ∧ V.cell? ⟨B + 1, 2, none⟩ = some (.int .i64 z) ∧ V.cell? ⟨B + 1, 3, none⟩ = some (.int .i64 u)))
    (first
      | exact HK.out _ (Below.refl _ _).drew
      | exact HK.out _ HB1.out
      | exact HK.out _ HB2.out
      | exact HK.out _ HB3.out
      | exact HK.out _ HB4.out)
    (first
      | (go_at_call_of 49 (Value.agg #[Value.int IntKind.i64 x, Value.int IntKind.i64 z, Value.int IntKind.i64 y]); refine ((HYY.out _).out).mono ?_; rintro e w5 ⟨rfl, hb⟩; first | (have HB4 := Lib.hid (HST.out _ _ HB3.out hb); clear hb) | (have HB1 := Lib.hid (HST.out _ _ (Below.refl _ W).drew hb); clear hb))
      | (go_at_call_of 49 (Value.agg #[Value.int IntKind.i64 x, Value.int IntKind.i64 u, Value.int IntKind.i64 y]); refine ((HZZ.out _).out).mono ?_; rintro e w6 ⟨rfl, hb⟩; first | (have HB2 := Lib.hid (HST.out _ _ HB1.out hb); clear hb) | (have HB3 := Lib.hid (HST.out _ _ (Below.refl _ W).drew hb); clear hb)))
  all_goals
    go_wp2
    go_ret
    exact ⟨rfl, by rw [HBB.out]; exact HB.out.trans (by first | exact HB2.out.mono (by omega) | exact HB4.out.mono (by omega))⟩
end Go.Proofs.Ytamnacgclhaggaa
