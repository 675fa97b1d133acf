/- Woven rings: contracts over rows at hand. -/
import Derived.Test.YtgojojoanhilnabDoorRw
import Derived.Test.YtgojojoanhilnabDoorRwS
import Derived.Test.YtgojojoanhilnabDoorWvY1
import Derived.Test.YtgojojoanhilnabDoorWvY3
import Derived.Test.YtgojojoanhilnabDoorRank
namespace Go.Proofs.YtgojojoanhilnabDoor
open Go.ChangeShapes Go.WideShapes Go.ChangeAt Go.RowKit

section
variable {w : World} {A A' : Option Addr} {n c m d : Nat} {p q : List Int}
theorem cI_WeaveAll (h : Rw w A n c p) (h' : Rw w A' m d q) (x : Int) (hT : Tab w) : Calls Tryd.prog 17 #[.int .i64 x, .slice A n c, .slice A' m d] w fun e w' => ∃ v, e = .returned (.tuple #[v, .bool (wov x p q)]) ∧ NewS w' v (waR x p q) ∧ Below w.heap.size w w' :=
  (waI_any A n c A' m d w.heap.size x p q w h.rd h'.rd (Nat.le_refl _) h.big h'.big h.2.1 h.2.2.1 h'.2.1 h'.2.2.1 hT).mono fun _ _ ⟨v, e1, ho, hb⟩ => ⟨v, e1, ho.newS (waR_tot x p q), hb⟩
theorem cS_WeaveAll (h : Rw w A n c p) (h' : Rw w A' m d q) (x : Int) : Calls Tryd.prog 18 #[.int .i64 x, .slice A n c, .slice A' m d] w fun e w' => ∃ v, e = .returned (.tuple #[v, .bool (wov x p q)]) ∧ NewS w' v (waR x p q) ∧ Below w.heap.size w w' :=
  (waS_any A n c A' m d w.heap.size x p q w h.rd h'.rd (Nat.le_refl _) h.big h'.big h.2.1 h.2.2.1 h'.2.1 h'.2.2.1).mono fun _ _ ⟨v, e1, ho, hb⟩ => ⟨v, e1, newS_of ho (waR_tot x p q), hb⟩
theorem cI_WeaveCount (h : Rw w A n c p) (h' : Rw w A' m d q) (x : Int) (hT : Tab w) : Calls Tryd.prog 13 #[.int .i64 x, .slice A n c, .slice A' m d] w fun e w' => e = .returned (.tuple #[.int .i64 (wctR x p q), .bool (wov x p q)]) ∧ Below w.heap.size w w' :=
  wcI_any A n c A' m d w.heap.size x p q w h.rd h'.rd (Nat.le_refl _) h.big h'.big h.2.1 h.2.2.1 h'.2.1 h'.2.2.1 hT
theorem cI_WeaveHasR (h : Rd w w.heap.size A n p) (hn : n ≤ 1048576) (hnc : n ≤ c) (hcm : c ≤ 9223372036854775807) (h' : Rw w A' m d q) (hT : Tab w) : Calls Tryd.prog 10 #[.slice A n c, .slice A' m d] w fun e w' => e = .returned (.bool (whB p q)) ∧ Below w.heap.size w w' :=
  whI_any A n c A' m d w.heap.size p q w h h'.rd (Nat.le_refl _) hn h'.big hnc hcm h'.2.1 h'.2.2.1 hT
end
/-- All that FnWeaveAll asks of the maths. -/
theorem wa_told {n : Nat} {p q : List Int} (h : wov (n : Int) p q = true) : (∀ k, k < (waR (n : Int) p q).length → (rowK (waR (n : Int) p q) k).length = n ∧ whB (rowK (waR (n : Int) p q) k) p = true ∧ whB (rowK (waR (n : Int) p q) k) q = true) ∧ wctR (n : Int) p q = ((waR (n : Int) p q).length : Nat) := by
  have hw : Wov (n : Int) p q := by simpa [wov] using h
  obtain ⟨m, hm, h3, h6⟩ := wov_nat hw
  obtain rfl : n = m := by omega
  have e : waR (n : Int) p q = wovenL n [p, q] := by rw [waR, if_pos hw, Int.toNat_natCast]
  refine ⟨fun k hk => ?_, by rw [wctR, if_pos hw, e, Int.toNat_natCast]⟩
  rw [e] at hk ⊢
  have hmem := rowK_mem hk
  have hi := wovenL_is n [p, q] h3 h6 _ hmem
  have ha := (List.mem_filter.1 hmem).2
  simp only [List.all_cons, List.all_nil, Bool.and_true, Bool.and_eq_true] at ha
  have hr : Ring (rowK (wovenL n [p, q]) k) := by
    have hmr := (List.mem_filter.1 hmem).1
    unfold ringsL at hmr
    obtain ⟨j, hj, ej⟩ := List.mem_map.1 hmr
    rw [List.mem_range] at hj
    have hf := (facM_eq7 n h3 (by omega)).1
    rw [← ej]
    exact (by_tell n (j : Int) h3 (by omega) (by omega) (by omega)).1
  exact ⟨hi.1, by rw [wh_all hr (by rw [hi.1]; exact hw.1)]; exact ha.1, by rw [wh_all hr (by rw [hi.1]; exact hw.2.1)]; exact ha.2⟩
end Go.Proofs.YtgojojoanhilnabDoor
