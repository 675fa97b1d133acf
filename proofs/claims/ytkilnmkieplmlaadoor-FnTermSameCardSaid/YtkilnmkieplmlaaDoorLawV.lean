/- Texts that tell one ring: both ways, and not with a sign in front. -/
import Derived.Test.YtkilnmkieplmlaaDoorLawU
import Derived.Test.YtkilnmkieplmlaaDoorTn8
namespace Go.Proofs.YtkilnmkieplmlaaDoor
open Go.ChangeShapes Go.WideShapes Go.ChangeAt Go.RowKit

theorem tsame_swap {s t : List UInt8} (h : tsameB s t = true) : tsameB t s = true := by
  unfold tsameB same at *
  simp only [Bool.and_eq_true, decide_eq_true_eq] at *
  exact ⟨h.2.1, h.1, h.2.2.symm⟩
theorem backL_ne {l : List Int} (h : Tell l) : backL l ≠ l := fun e => by
  have h3 := h.1
  have hg := backL_get l 1 (by omega)
  rw [e, Nat.mod_eq_of_lt (by omega)] at hg
  have a := idx_backU h.2.2.2 (i := 1) (by omega)
  have b := idx_backU h.2.2.2 (i := l.length - 1) (by omega)
  rw [hg, b] at a
  omega
theorem tring_60 {l : List UInt8} (h : tringB l = true) : l.length ≤ 60 := by
  unfold tringB at h
  rcases hr : ringT l with _ | t
  · rw [hr] at h; cases h
  · have h1 := (ringT_ok hr).1
    obtain ⟨hok, hlen, h60⟩ := rdT_ok h1
    have e := rd_txt h1
    have := txt_len t
    rw [e]
    omega
theorem tsame_sign {s t : List UInt8} (h : tsameB s t = true) : tsameB s (45 :: t) = false := by
  rw [Bool.eq_false_iff]
  intro h2
  unfold tsameB same at h h2
  simp only [Bool.and_eq_true, decide_eq_true_eq] at h h2
  have h60 := tring_60 h2.2.1
  obtain ⟨_, hg, hb⟩ := tring_sign h.2.1 (by simpa using h60)
  rw [backR, if_pos hg, ← h.2.2, h2.2.2] at hb
  exact backL_ne hg.1 hb
end Go.Proofs.YtkilnmkieplmlaaDoor
