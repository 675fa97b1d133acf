/- The least point of a set by the library's count of zero bits, and the part of a ring. -/
import Derived.Test.YtgojojoanhilnabDoorWA
import Derived.Test.YtgojojoanhilnabDoorFold
import Derived.Test.YtgojojoanhilnabDoorPE
import Derived.Lib.TrailingZeros
import Derived.Laws.Bits64b
namespace Go.Proofs.YtgojojoanhilnabDoor
open Go.ChangeShapes Go.WideShapes Go.ChangeAt Go.RowKit

def tabI : List Int := Lib.deBruijn64tab.map fun z : Nat => (z : Int)
theorem tab_len : tabI.length = 64 := by decide
/-- The library's table lies in its variable. -/
def Tab (w : World) : Prop := 2 ≤ w.heap.size ∧ ∀ j, j < 64 → w.cell? ⟨1, j, none⟩ = some (.int .u8 (tabI.getD j 0))
theorem Tab.below {w w' : World} {B : Nat} (h : Tab w) (hb : Below B w w') (hB : 2 ≤ B) : Tab w' :=
  ⟨Nat.le_trans h.1 hb.size, fun j hj => (hb.cell (p := ⟨1, j, none⟩) (by simp; omega)).trans (h.2 j hj)⟩
theorem Tab.on {w w' : World} (h : Tab w) (hb : Below w.heap.size w w') : Tab w' := h.below hb h.1
theorem Tab.turn {w w' : World} {B C : Nat} (h : Tab w) (ht : Turn B C w w') (hB : 2 ≤ B) : Tab w' := h.below (below_turn (Below.refl 2 w) ht hB h.1) (Nat.le_refl _)
theorem Tab.drewN {w : World} (h : Tab w) (k : Nat) : Tab (w.drewN k) := h
theorem Tab.alloc {w : World} (h : Tab w) (o : Obj) : Tab (w.alloc o) := h.on ((Below.refl _ _).alloc (Nat.le_refl _) _)

def tzI (s : Nat) : Nat := (s &&& (18446744073709551616 - s)) * 285870213051353865 % 18446744073709551616 / 288230376151711744
theorem tz_nat : ∀ s : Fin 128, s.val ≠ 0 → tzI s.val < 64 ∧ tabI.getD (tzI s.val) 0 = ((lowN s.val : Nat) : Int) := by decide +kernel
theorem tz_key (s : Nat) (h0 : 0 < s) (hs : s < 128) : IntKind.u64.wrap (bits BinOp.and IntKind.u64 (s : Int) (IntKind.u64.wrap (-(s : Int))) * 285870213051353865) / 288230376151711744 = ((tzI s : Nat) : Int) := by
  have e1 : IntKind.u64.wrap (-(s : Int)) = ((18446744073709551616 - s : Nat) : Int) := by rw [IntKind.wrap_u64]; omega
  rw [e1, bits_and_u64_nat s _ (by omega) (by omega), IntKind.wrap_u64]
  unfold tzI
  generalize s &&& (18446744073709551616 - s) = a
  rw [Int.natCast_ediv, Int.natCast_emod, Int.natCast_mul]
  rfl

theorem tz64_core (x k idx : Nat) (w : World) (hx0 : ((x : Int) == 0) = false)
    (key : IntKind.u64.wrap (bits BinOp.and IntKind.u64 (x : Int) (IntKind.u64.wrap (-(x : Int))) * 285870213051353865) / 288230376151711744 = (idx : Int))
    (hi : idx < 64) (hk : k < 64) (hcell : w.cell? ⟨1, idx, none⟩ = some (.int .u8 k)) :
    Calls Tryd.prog 83 #[.int .u64 x] w fun e w' => e = .returned (.int .i64 k) ∧ w' = w := by
  go_enter Tryd.func83, Tryd.ntmps83
  go_wp2_with (simp only [key])
  go_ret
  exact ⟨rfl, rfl⟩
theorem tz64_any (s : Nat) (w : World) (h0 : 0 < s) (hs : s < 128) (hT : Tab w) :
    Calls Tryd.prog 83 #[.int .u64 (s : Int)] w fun e w' => e = .returned (.int .i64 (lowN s : Int)) ∧ w = w' := by
  have key := tz_key s h0 hs
  obtain ⟨hi, hk⟩ := tz_nat ⟨s, hs⟩ (by simp; omega)
  simp only at hi hk
  have hcell := hT.2 _ hi
  rw [hk] at hcell
  have hl := low_le s
  exact (tz64_core s (lowN s) (tzI s) w (by simp; omega) key hi (by omega) hcell).mono fun _ _ ⟨a, b⟩ => ⟨a, b.symm⟩
theorem tz_any (s : Nat) (w : World) (h0 : 0 < s) (hs : s < 128) (hT : Tab w) :
    Calls Tryd.prog 77 #[.int .u64 (s : Int)] w fun e w' => e = .returned (.int .i64 (lowN s : Int)) ∧ w = w' := by
  have HC := Lib.hid (tz64_any s w h0 hs hT)
  generalize lowN s = k at *
  clear hT
  go_enter Tryd.func77, Tryd.ntmps77
  go_wp2_with (refine HC.out.mono ?_; rintro e w' ⟨rfl, rfl⟩)
  go_ret
  exact ⟨rfl, rfl⟩
end Go.Proofs.YtgojojoanhilnabDoor
