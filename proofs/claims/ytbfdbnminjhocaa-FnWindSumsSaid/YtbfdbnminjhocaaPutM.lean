/- The maths of a new point behind a point, and of the greatest point left out. -/
import Derived.Test.YtbfdbnminjhocaaRingM
import Derived.Test.YtbfdbnminjhocaaMC
namespace Go.Proofs.Ytbfdbnminjhocaa
open Go.ChangeShapes Go.WideShapes Go.ChangeAt Go.RowKit

theorem putB_no {l : List Int} {x : Int} (h : ¬ putB l x = true) : putB l x = false := by simpa using h
theorem putL_perm (l : List Int) (x : Int) : List.Perm (putL l x) ((l.length : Int) :: l) := by
  have := List.perm_middle (a := (l.length : Int)) (l₁ := l.take (l.idxOf x + 1)) (l₂ := l.drop (l.idxOf x + 1))
  rw [List.take_append_drop] at this
  exact this
theorem top_not {l : List Int} (h : Tell l) : ∀ y ∈ l, y ≠ (l.length : Int) := fun y hy => by have := h.2.2.1 y hy; omega
theorem putL_tell {l : List Int} {x : Int} (h : Tell l) (hx : x ∈ l) (h6 : l.length < 7) : Tell (putL l x) := by
  have hl := putL_length l x hx
  have hp := putL_perm l x
  refine ⟨by have := h.1; omega, by omega, fun y hy => ?_, ?_⟩
  · rw [hl]
    rcases List.mem_cons.1 (hp.mem_iff.1 hy) with rfl | hy
    · omega
    · have := h.2.2.1 y hy; omega
  · refine hp.nodup_iff.2 (List.nodup_cons.2 ⟨fun hy => top_not h _ hy rfl, h.2.2.2⟩)
theorem filter_all {l : List Int} {q : Int} (h : ∀ y ∈ l, y ≠ q) : l.filter (fun y => y != q) = l :=
  List.filter_eq_self.2 fun y hy => by simpa using h y hy
theorem putL_drop {l : List Int} {x : Int} (h : Tell l) (hx : x ∈ l) : dropL (putL l x) = l := by
  unfold dropL
  rw [putL_length l x hx, show ((l.length + 1 : Nat) : Int) - 1 = (l.length : Int) by omega]
  unfold putL
  rw [List.filter_append, List.filter_cons, if_neg (by simp), filter_all (fun y hy => top_not h y (List.mem_of_mem_take hy)), filter_all (fun y hy => top_not h y (List.mem_of_mem_drop hy)), List.take_append_drop]
theorem putL_idx {l : List Int} {x : Int} (h : Tell l) (hx : x ∈ l) (h6 : l.length < 7) : (putL l x).idxOf x = l.idxOf x := by
  have hi := List.idxOf_lt_length_of_mem hx
  have e := putL_low l x (l.idxOf x) hi (Nat.le_refl _)
  rw [at_idx l x hx] at e
  have := idxAt (putL_tell h hx h6).2.2.2 (i := l.idxOf x) (by rw [putL_length l x hx]; omega)
  rw [e] at this
  exact this
theorem putL_ring {l : List Int} {x : Int} (h : Ring l) (hx : x ∈ l) (h6 : l.length < 7) : Ring (putL l x) := by
  refine ⟨putL_tell h.1 hx h6, ?_⟩
  rw [putL_low l x 0 (by have := h.1.1; omega) (Nat.zero_le _)]
  exact h.2
theorem put_facts {l : List Int} {x : Int} (h : putB l x = true) : Ring l ∧ x ∈ l ∧ l.length < 7 ∧ Ring (putL l x) ∧ x ∈ putL l x ∧ (putL l x).getD (((putL l x).idxOf x + 1) % (putL l x).length) 0 = (l.length : Int) ∧ dropL (putL l x) = l := by
  obtain ⟨hb, h7⟩ := putB_yes h
  obtain ⟨hr, _, _, hx⟩ := hasB_yes hb
  have h6 : l.length < 7 := by have := hr.1.2.1; omega
  have hi := List.idxOf_lt_length_of_mem hx
  refine ⟨hr, hx, h6, putL_ring hr hx h6, (putL_perm l x).mem_iff.2 (List.mem_cons_of_mem _ hx), ?_, putL_drop hr.1 hx⟩
  rw [putL_idx hr.1 hx h6, putL_length l x hx, Nat.mod_eq_of_lt (by omega)]
  exact putL_mid l x hx
/-- The greatest point put back behind the one that it stood behind. -/
theorem drop_put {l : List Int} (h : Ring l) (h3 : l.length ≠ 3) : Ring (dropL l) ∧ (dropL l).length = l.length - 1 ∧ ∃ x, x ∈ dropL l ∧ putL (dropL l) x = l := by
  have ht := h.1.1
  have hl := dropL_length l h.1
  have htop := top_in l h.1
  have hq := List.idxOf_lt_length_of_mem htop
  obtain ⟨q, hqe⟩ : ∃ q, q = l.idxOf ((l.length : Int) - 1) := ⟨_, rfl⟩
  have he := dropL_eq l h.1
  have hat := at_idx l _ htop
  rw [← hqe] at hq he hat
  have hq0 : q ≠ 0 := fun e => by rw [e, h.2] at hat; omega
  have hmem : ∀ y, y ∈ dropL l ↔ y ∈ l ∧ y ≠ (l.length : Int) - 1 := fun y => by simp [dropL]
  have hdt : Tell (dropL l) := by
    refine ⟨by rw [hl]; omega, by rw [hl]; have := h.1.2.1; omega, fun y hy => ?_, h.1.2.2.2.sublist List.filter_sublist⟩
    have h1 := (hmem y).1 hy
    have := h.1.2.2.1 y h1.1
    rw [hl]
    omega
  have hget : ∀ k, k < q → (dropL l).getD k 0 = l.getD k 0 := fun k hk => by
    rw [he, List.getD, List.getD, List.getElem?_append_left (by rw [List.length_take]; omega), List.getElem?_take, if_pos hk]
  refine ⟨⟨hdt, by rw [hget 0 (by omega)]; exact h.2⟩, hl, (dropL l).getD (q - 1) 0, getD_mem _ _ (by rw [hl]; omega), ?_⟩
  have hi := idxAt hdt.2.2.2 (i := q - 1) (by rw [hl]; omega)
  unfold putL
  rw [hi, show q - 1 + 1 = q by omega, hl, he]
  have e1 : (l.take q ++ l.drop (q + 1)).take q = l.take q := List.take_left' (by rw [List.length_take]; omega)
  have e2 : (l.take q ++ l.drop (q + 1)).drop q = l.drop (q + 1) := List.drop_left' (by rw [List.length_take]; omega)
  rw [e1, e2]
  have e3 : ((l.length - 1 : Nat) : Int) = l[q] := by
    rw [show ((l.length - 1 : Nat) : Int) = (l.length : Int) - 1 by omega, ← hat]
    simp [List.getD, hq]
  rw [e3, ← List.drop_eq_getElem_cons hq, List.take_append_drop]
theorem dropB_no {l : List Int} (h : ¬ dropB l = true) : dropB l = false := by simpa using h
/-- Has one of the first k points been found behind which l comes? -/
def foundN (d l : List Int) (k : Nat) : Bool := (List.range k).any fun y => putB d (y : Int) && decide (putR d (y : Int) = l)
theorem found_step (d l : List Int) (k : Nat) : foundN d l (k + 1) = (foundN d l k || (putB d (k : Int) && same (putR d (k : Int)) l)) := by
  simp [foundN, List.range_succ, same]
theorem found_end {d l : List Int} (h : Ring d) (h6 : d.length < 7) {x : Int} (hx : x ∈ d) (e : putL d x = l) : foundN d l d.length = true := by
  have hb := h.1.2.2.1 x hx
  have hp : putB d x = true := by rw [putB, hasB_of h hx]; simp; omega
  simp only [foundN, List.any_eq_true]
  refine ⟨x.toNat, List.mem_range.2 (by omega), ?_⟩
  rw [Int.toNat_of_nonneg hb.1, hp, putR, if_pos hp, e]
  simp
end Go.Proofs.Ytbfdbnminjhocaa
