/- The program's reading of a list into its array. -/
import Derived.Test.YtpfdlgofkcpglaaPts
import Derived.StillTailTactics
import Derived.Laws.CopyOwn
namespace Go.Proofs.Ytpfdlgofkcpglaa
open Go.ChangeShapes Go.WideShapes Go.ChangeAt Go.RowKit

abbrev neg7 : List Int := [-1, -1, -1, -1, -1, -1, -1]
abbrev zero7 : List Int := [0, 0, 0, 0, 0, 0, 0]

/-- What readTelling hands back: the array of the list, or an array without points. -/
def readP (l : List Int) : List Int := if Tell l then padR l else neg7

theorem Arr.grown {w w' : World} {g g' : Nat} {P : List Int} (h : Arr w g P) (hg : w.grownBy w' (some g')) (hne : g ≠ g') : Arr w' g P :=
  (hg.block g h.lt (by simpa using hne)).trans h

/-- The array half read: the first k numbers, -1 behind. -/
def padK (l : List Int) (k : Nat) : List Int := l.take k ++ List.replicate (7 - k) (-1)
theorem padK_length (l : List Int) (k : Nat) (hk : k ≤ l.length) (h7 : k ≤ 7) : (padK l k).length = 7 := by simp [padK]; omega
theorem padK_step (l : List Int) (k : Nat) (hk : k < l.length) (h7 : k < 7) : (padK l k).set k (l.getD k 0) = padK l (k + 1) := by
  unfold padK
  have hl : (l.take k).length = k := by simp; omega
  rw [List.set_append_right _ _ (by omega), hl, Nat.sub_self]
  obtain ⟨m, hm⟩ : ∃ m, 7 - k = m + 1 := ⟨7 - k - 1, by omega⟩
  rw [hm, show 7 - (k + 1) = m by omega, List.replicate_succ, List.set_cons_zero]
  rw [List.take_succ_eq_append_getElem hk, List.append_assoc]
  simp [List.getD, hk]
theorem padK_full (l : List Int) : padK l l.length = padR l := by simp [padK, padR]

theorem tell_yes {l : List Int} (h : Tell l) : tell l = true := by simpa [tell] using h
theorem tell_no {l : List Int} (h : ¬ Tell l) : tell l = false := by simpa [tell] using h
theorem pad_neg (l : List Int) (n : Nat) (hl : l.length = n) (_ : n ≤ 7) : l ++ neg7.drop n = padR l := by
  unfold padR
  rw [hl]
  have : neg7 = List.replicate 7 (-1) := rfl
  rw [this, List.drop_replicate]
theorem int_size : (Try.prog.info? 3).map (·.size) = some 1 := by kernel_rfl

end Go.Proofs.Ytpfdlgofkcpglaa
