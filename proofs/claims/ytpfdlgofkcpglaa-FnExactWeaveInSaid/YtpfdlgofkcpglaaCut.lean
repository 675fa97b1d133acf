/- A ring beginning with another point: the program's array and the model's list. -/
import Derived.Test.YtpfdlgofkcpglaaRead
import Derived.Deep.RegionWith
import Derived.Deep.RegionHeld3
namespace Go.Proofs.Ytpfdlgofkcpglaa
open Go.ChangeShapes Go.WideShapes Go.ChangeAt Go.RowKit

/-- The list that goes round from x on. -/
def cutL (l : List Int) (x : Int) : List Int := (List.range l.length).map fun i => l.getD ((l.idxOf x + i) % l.length) 0
@[simp] theorem cutL_length (l : List Int) (x : Int) : (cutL l x).length = l.length := by simp [cutL]
theorem cutL_get (l : List Int) (x : Int) (k : Nat) (hk : k < l.length) : (cutL l x).getD k 0 = l.getD ((l.idxOf x + k) % l.length) 0 := by
  simp [cutL, List.getD, hk]

/-- The array half turned. -/
def turnK (l : List Int) (x : Int) (k : Nat) : List Int := (cutL l x).take k ++ (padR l).drop k
theorem turnK_length (l : List Int) (x : Int) (k : Nat) (hk : k ≤ l.length) (h7 : l.length ≤ 7) : (turnK l x k).length = 7 := by
  have := padR_length l h7
  simp [turnK]; omega
theorem turnK_zero (l : List Int) (x : Int) : turnK l x 0 = padR l := by simp [turnK]
theorem turnK_step (l : List Int) (x : Int) (k : Nat) (hk : k < l.length) (h7 : l.length ≤ 7) : (turnK l x k).set k (l.getD ((l.idxOf x + k) % l.length) 0) = turnK l x (k + 1) := by
  rw [← cutL_get l x k hk]
  unfold turnK
  have hl : ((cutL l x).take k).length = k := by simp; omega
  have hp := padR_length l h7
  rw [List.set_append_right _ _ (by omega), hl, Nat.sub_self, List.drop_eq_getElem_cons (by omega : k < (padR l).length), List.set_cons_zero]
  rw [List.take_succ_eq_append_getElem (by simpa using hk), List.append_assoc]
  simp [List.getD, hk]
theorem turnK_full (l : List Int) (x : Int) : turnK l x l.length = padR (cutL l x) := by
  unfold turnK padR
  rw [List.take_of_length_le (by simp), List.drop_append, cutL_length]
  simp

end Go.Proofs.Ytpfdlgofkcpglaa
