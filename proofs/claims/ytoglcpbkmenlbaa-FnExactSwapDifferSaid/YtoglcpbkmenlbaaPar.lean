/- Pairs and partings: what they are; the program's reading of them. -/
import Derived.Test.YtoglcpbkmenlbaaBlk
import Derived.Test.YtoglcpbkmenlbaaPts
import Derived.StillTailTactics
namespace Go.Proofs.Ytoglcpbkmenlbaa
open Go.ChangeShapes Go.WideShapes Go.ChangeAt Go.RowKit

/-- 2 different points of n. -/
def Two (n : Int) (l : List Int) : Prop := l.length = 2 ∧ Pts n l
instance (n : Int) (l : List Int) : Decidable (Two n l) := by unfold Two; infer_instance
def two (n : Int) (l : List Int) : Bool := decide (Two n l)
def twoL (n : Int) (l : List Int) : List Int := if Two n l then l else [0, 0]
theorem twoL_length (n : Int) (l : List Int) : (twoL n l).length = 2 := by
  unfold twoL
  split
  · rename_i h; exact h.1
  · rfl
theorem two_yes {n : Int} {l : List Int} (h : Two n l) : two n l = true ∧ twoL n l = l := ⟨by simpa [two] using h, by rw [twoL, if_pos h]⟩
theorem two_no {n : Int} {l : List Int} (h : ¬ Two n l) : two n l = false ∧ twoL n l = [0, 0] := ⟨by simpa [two] using h, by rw [twoL, if_neg h]⟩
theorem of_two {l : List Int} (h : l.length = 2) : ∃ x y, l = [x, y] := by
  match l, h with
  | [x, y], _ => exact ⟨x, y, rfl⟩
theorem rd2 {w : World} {H : Nat} {x y : Int} {A : Option Addr} (h : Rd w H A 2 [x, y]) : ∃ b o, A = some ⟨b, o, none⟩ ∧ b < H ∧ w.cell? ⟨b, o, none⟩ = some (.int .i64 x) ∧ w.cell? ⟨b, o + 1, none⟩ = some (.int .i64 y) := by
  obtain ⟨b, o, e, hb, hc⟩ := h.at_ (by omega)
  exact ⟨b, o, e, hb, hc 0 (by omega), hc 1 (by omega)⟩
theorem readPair_size : (Try.prog.info? 77).map (·.size) = some 2 := by kernel_rfl
theorem readPair_info : (Try.prog.info? 77).map (fun i => (i.zero, i.size, i.bytes)) = some (some (.agg #[.int .i64 0, .int .i64 0]), 2, 16) := by kernel_rfl

/-- 4 different points of n. -/
def Four (n : Int) (l : List Int) : Prop := l.length = 4 ∧ Pts n l
instance (n : Int) (l : List Int) : Decidable (Four n l) := by unfold Four; infer_instance
def four (n : Int) (l : List Int) : Bool := decide (Four n l)
def fourL (n : Int) (l : List Int) : List Int := if Four n l then l else [0, 0, 0, 0]
theorem fourL_length (n : Int) (l : List Int) : (fourL n l).length = 4 := by
  unfold fourL
  split
  · rename_i h; exact h.1
  · rfl
theorem four_yes {n : Int} {l : List Int} (h : Four n l) : four n l = true ∧ fourL n l = l := ⟨by simpa [four] using h, by rw [fourL, if_pos h]⟩
theorem four_no {n : Int} {l : List Int} (h : ¬ Four n l) : four n l = false ∧ fourL n l = [0, 0, 0, 0] := ⟨by simpa [four] using h, by rw [fourL, if_neg h]⟩
theorem of_four {l : List Int} (h : l.length = 4) : ∃ x y z u, l = [x, y, z, u] := by
  match l, h with
  | [x, y, z, u], _ => exact ⟨x, y, z, u, rfl⟩
theorem rd4 {w : World} {H : Nat} {x y z u : Int} {A : Option Addr} (h : Rd w H A 4 [x, y, z, u]) : ∃ b o, A = some ⟨b, o, none⟩ ∧ b < H ∧ w.cell? ⟨b, o, none⟩ = some (.int .i64 x) ∧ w.cell? ⟨b, o + 1, none⟩ = some (.int .i64 y) ∧ w.cell? ⟨b, o + 2, none⟩ = some (.int .i64 z) ∧ w.cell? ⟨b, o + 3, none⟩ = some (.int .i64 u) := by
  obtain ⟨b, o, e, hb, hc⟩ := h.at_ (by omega)
  exact ⟨b, o, e, hb, hc 0 (by omega), hc 1 (by omega), hc 2 (by omega), hc 3 (by omega)⟩
end Go.Proofs.Ytoglcpbkmenlbaa
