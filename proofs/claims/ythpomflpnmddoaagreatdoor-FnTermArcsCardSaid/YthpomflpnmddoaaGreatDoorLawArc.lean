/- What brackets tell of a ring: contracts over texts and rows at hand. -/
import Derived.Test.YthpomflpnmddoaaGreatDoorTa7
import Derived.Test.YthpomflpnmddoaaGreatDoorTn6
import Derived.Test.YthpomflpnmddoaaGreatDoorArI
import Derived.Test.YthpomflpnmddoaaGreatDoorTq1
import Derived.Test.YthpomflpnmddoaaGreatDoorSameI
namespace Go.Proofs.YthpomflpnmddoaaGreatDoor
open Go.ChangeShapes Go.WideShapes Go.ChangeAt Go.RowKit

/-- A row of at most 128 numbers at hand. -/
def RwL (w : World) (A : Option Addr) (n : Nat) (l : List Int) : Prop := Rd w w.heap.size A n l ∧ n ≤ 128
def NewL (w : World) (v : Value) (l : List Int) : Prop := ∃ A n c, v = .slice A n c ∧ RwL w A n l
section
variable {w w' : World} {A A' : Option Addr} {n c m d : Nat} {l t : List Int} {v : Value}
theorem RwL.step (h : RwL w A n l) (k : Below w.heap.size w w') : RwL w' A n l := ⟨(h.1.below k).more k.size, h.2⟩
theorem RwL.len (h : RwL w A n l) : l.length = n := h.1.len
theorem Own.newL {B : Nat} (h : Own w B v l) (h8 : l.length ≤ 128) : NewL w v l := by
  obtain ⟨A, c, e⟩ := h.slice
  subst e
  exact ⟨A, _, c, rfl, h.rd.2, h8⟩
theorem sameL_any (h : RwL w A n l) (h' : RwL w A' m t) : Calls Tryz.prog 7 #[.slice A n c, .slice A' m d] w fun e w' => e = .returned (.bool (same l t)) ∧ Below w.heap.size w w' :=
  (sameInts_drew A A' n m c d l t w.heap.size w h.1 h'.1 (by have := h.2; omega) (by have := h'.2; omega)).mono fun e w' ⟨e1, q, e2⟩ => ⟨e1, by subst e2; exact below_drewN (Below.refl _ _) q⟩
theorem cI_TermArcs (s : ByteArray) (hs : s.size ≤ 1048576) (hT : Hand w) : Calls Tryz.prog 5 #[.string s] w fun e w' => ∃ v, e = .returned (.tuple #[v, .bool (tringB s.data.toList)]) ∧ NewL w' v (tarcR s.data.toList) ∧ Below w.heap.size w w' :=
  (arcsI_law w.heap.size s w (Nat.le_refl _) hs hT).mono fun _ _ ⟨v, e, ho, hb⟩ => ⟨v, e, ho.newL (tarcR_length _), hb⟩
theorem cS_TermArcs (s : ByteArray) (hs : s.size ≤ 1048576) (_hT : Hand w) : Calls Tryz.prog 6 #[.string s] w fun e w' => ∃ v, e = .returned (.tuple #[v, .bool (tringB s.data.toList)]) ∧ NewL w' v (tarcR s.data.toList) ∧ Below w.heap.size w w' :=
  (arcsS_law w.heap.size s w (Nat.le_refl _) hs).mono fun _ _ ⟨v, e, ho, hb⟩ => ⟨v, e, ho.newL (tarcR_length _), hb⟩
theorem cI_TermTidyR (s : ByteArray) (hs : s.size ≤ 1048576) (hT : Hand w) (t : Tm) (h : ringT s.data.toList = some t) : Calls Tryz.prog 9 #[.string s] w fun e w' => e = .returned (.tuple #[.string (bs (t.tidy false)), .bool true]) ∧ Below w.heap.size w w' := tidyI_yes s w hT hs t h
theorem cI_ArcIsT (h : Rw w A n c l) (s : Int) : Calls Tryz.prog 10 #[.slice A n c, .int .i64 s] w fun e w' => e = .returned (.bool (arcB l s)) ∧ Below w.heap.size w w' :=
  isI_any A n c w.heap.size l s w h.rd (Nat.le_refl _) h.big h.2.1 h.2.2.1
end
/-- All that FnTermArcs asks of the maths. -/
theorem tarc_told {s : ByteArray} (h : tringB s.data.toList = true) : ∃ t : Tm, ringT s.data.toList = some t ∧ Ring (tringR s.data.toList) ∧ (∀ k, k < (tarcR s.data.toList).length → arcB (tringR s.data.toList) ((tarcR s.data.toList).getD k 0) = true) ∧
    (∀ k, k + 1 < (tarcR s.data.toList).length → (tarcR s.data.toList).getD k 0 < (tarcR s.data.toList).getD (k + 1) 0) ∧ (bs (t.tidy false)).size ≤ 1048576 ∧ tringB (bs (t.tidy false)).data.toList = true ∧ tarcR (bs (t.tidy false)).data.toList = tarcR s.data.toList := by
  have hring := tring_ring h
  unfold tringB at h
  rcases hr : ringT s.data.toList with _ | t
  · rw [hr] at h; cases h
  have hT := (ringT_ok hr).2
  obtain ⟨hok, hlen, h60⟩ := rdT_ok (ringT_ok hr).1
  have eA : tarcR s.data.toList = t.arcs := by rw [tarcR, hr]
  have eR : tringR s.data.toList = cutL (ptsU t.row) 0 := by rw [tringR, hr]
  obtain ⟨u, hu, hua⟩ := tidy_arcs hr
  have hle := tidy_le t false
  rw [eA]
  rw [eR] at hring ⊢
  refine ⟨t, rfl, hring, fun k hk => ?_, fun k hk => ?_, by rw [bs_size]; omega, by rw [bs_list, tringB, hu]; rfl, by rw [bs_list, tarcR, hu]; exact hua⟩
  · obtain ⟨z, e1, e2, e3⟩ := arcs_run hok hT (getD_mem t.arcs k hk)
    rw [e1]
    have hl : (cutL (ptsU t.row) 0).length = t.row.length := by rw [cutL_length]; simp [ptsU]
    have hset : SetL (cutL (ptsU t.row) 0) ((z : Nat) : Int) := by
      refine ⟨hring, by omega, ?_⟩
      rw [hl]
      have e : ((2 ^ t.row.length : Nat) : Int) = 2 ^ t.row.length := by simp
      have := Nat.one_le_two_pow (n := t.row.length)
      omega
    rw [arcB, set_yes hset, Int.toNat_natCast, e3]
    rfl
  · have hp := arcs_less t
    rw [List.pairwise_iff_getElem] at hp
    have := hp k (k + 1) (by omega) hk (by omega)
    simp only [List.getD, List.getElem?_eq_getElem hk, List.getElem?_eq_getElem (show k < t.arcs.length by omega), Option.getD_some]
    exact this
end Go.Proofs.YthpomflpnmddoaaGreatDoor
