/- A three's middle lies between; the drawer of threes, and ThreeIn, over rows at hand. -/
import Derived.Test.YtbfdbnminjhocaaDraw3
import Derived.Test.YtbfdbnminjhocaaInT
import Derived.Test.YtbfdbnminjhocaaLaw0
import Derived.Test.YtbfdbnminjhocaaRingM
import Derived.Test.YtbfdbnminjhocaaDraw6
namespace Go.Proofs.Ytbfdbnminjhocaa
open Go.ChangeShapes Go.WideShapes Go.ChangeAt Go.RowKit

theorem cI_ThreeIn {w : World} {A : Option Addr} {n c : Nat} {l : List Int} {A' : Option Addr} {n' c' : Nat} {p : List Int} (h : Rw w A n c l) (h' : Rw w A' n' c' p) :
    Calls Try.prog 13 #[.slice A n c, .slice A' n' c'] w fun e w' => e = .returned (.bool (inB l p)) ∧ Below w.heap.size w w' :=
  tiI_any A n c A' n' c' w.heap.size l p w h.rd h'.rd (Nat.le_refl _) h.big h'.big h.2.1 h.2.2.1 h'.2.1 h'.2.2.1
theorem cS_ThreeIn {w : World} {A : Option Addr} {n c : Nat} {l : List Int} {A' : Option Addr} {n' c' : Nat} {p : List Int} (h : Rw w A n c l) (h' : Rw w A' n' c' p) :
    Calls Try.prog 14 #[.slice A n c, .slice A' n' c'] w fun e w' => e = .returned (.bool (inB l p)) ∧ Below w.heap.size w w' :=
  tiS_any A n c A' n' c' w.heap.size l p w h.rd h'.rd (Nat.le_refl _) h.big h'.big
theorem drawThreeN_any (n c H : Nat) (A : Option Addr) (w : World) (hb : Byt w H A n) (hH : H ≤ w.heap.size) (hnc : n ≤ c) (hc : c ≤ 9223372036854775807) :
    Calls Try.prog 12 #[.slice A n c] w fun e w' => ∃ v v' l t, e = .returned (.tuple #[v, v']) ∧ NewR w' v l ∧ NewR w' v' t ∧ (l.length ≤ 7 ∧ t.length = 3) ∧ Below w.heap.size w w' :=
  (drawThree_any n c H A w hb hH hnc hc).mono fun _ _ ⟨v, v', l, t, e, h1, h2, h3, h4⟩ => ⟨v, v', l, t, e, h1.newR h3.1, h2.newR (by omega), h3, h4⟩
theorem inB_no {l t : List Int} (h : ¬ inB l t = true) : inB l t = false := by simpa using h
theorem inB_split {l t : List Int} (h : inB l t = true) : Ring l ∧ ∃ x y z, t = [x, y, z] ∧ x ∈ l ∧ y ∈ l ∧ z ∈ l ∧ x ≠ y ∧ y ≠ z ∧ x ≠ z ∧ has3 l [x, y, z] = true := by
  unfold inB at h
  simp only [Bool.and_eq_true] at h
  obtain ⟨⟨h1, h2⟩, h3⟩ := h
  have hr : Ring l := by simpa [ringB] using h1
  have ht : Thr (l.length : Int) t := by simpa [thr] using h2
  obtain ⟨x, y, z, rfl, hx, hy, hz⟩ := thr_mem hr.1 ht
  have := (thr3 _ x y z).1 ht
  exact ⟨hr, x, y, z, rfl, hx, hy, hz, this.2.2.2.1, this.2.2.2.2.2, this.2.2.2.2.1, h3⟩
/-- Is y among the first k of a list? -/
def hasN (M : List Int) (y : Int) (k : Nat) : Bool := (List.range k).any fun j => M.getD j 0 == y
theorem hasN_step (M : List Int) (y : Int) (k : Nat) : hasN M y (k + 1) = (hasN M y k || (M.getD k 0 == y)) := by
  simp [hasN, List.range_succ]
theorem from_mid {l : List Int} {x y z : Int} (h : Ring l) (hx : x ∈ l) (hy : y ∈ l) (hz : z ∈ l) (hxy : x ≠ y) (hlt : stepsI l x y < stepsI l x z) : hasN (fromL l x z) y (fromL l x z).length = true := by
  obtain ⟨e1, i1⟩ := cutL_idx h.1 hx hy
  have hs := steps_zero l x y h.1 hx hy
  have hs2 := steps_zero l x z h.1 hx hz
  have he := endN_of l x z h.1 hx hz
  rw [if_neg (by omega)] at he
  have hst : stepsI l x y = ((cutL l x).idxOf y : Int) := by
    unfold stepsI
    rw [← e1]
    have hxi := List.idxOf_lt_length_of_mem hx
    generalize (cutL l x).idxOf y = j at *
    generalize l.idxOf x = i at *
    generalize l.length = n at *
    rcases Nat.lt_or_ge (i + j) n with a | a
    · rw [Nat.mod_eq_of_lt a, show ((i + j : Nat) : Int) - (i : Int) = (j : Int) by omega]
      exact Int.emod_eq_of_lt (by omega) (by omega)
    · rw [Nat.mod_eq_sub_mod a, Nat.mod_eq_of_lt (by omega), ← Int.add_emod_right, show ((i + j - n : Nat) : Int) - (i : Int) + (n : Int) = (j : Int) by omega]
      exact Int.emod_eq_of_lt (by omega) (by omega)
  have h0 : stepsI l x y ≠ 0 := fun e => hxy (hs.1.1 e)
  have hlen := fromL_length l x z (by rw [cutL_length]; exact he.2.1)
  have hg := fromL_get l x z ((cutL l x).idxOf y - 1) (by omega) (by rw [cutL_length]; exact he.2.1)
  rw [show 1 + ((cutL l x).idxOf y - 1) = (cutL l x).idxOf y by omega, at_idx _ y ((cutL_mem l x y hx).2 hy)] at hg
  simp only [hasN, List.any_eq_true]
  exact ⟨(cutL l x).idxOf y - 1, List.mem_range.2 (by omega), by rw [hg]; simp⟩
end Go.Proofs.Ytbfdbnminjhocaa
