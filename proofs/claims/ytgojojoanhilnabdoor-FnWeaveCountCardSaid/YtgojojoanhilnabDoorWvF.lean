/- The program's reading of a list of parts, and of two parts that have each point in one of them. -/
import Derived.Test.YtgojojoanhilnabDoorWvE
namespace Go.Proofs.YtgojojoanhilnabDoor
open Go.ChangeShapes Go.WideShapes Go.ChangeAt Go.RowKit

/-- Whether lists are at most ten parts of n points. -/
def Lst (n : Int) (L : List (List Int)) : Prop := (3 ≤ n ∧ n ≤ 6) ∧ L.length ≤ 10 ∧ ∀ l ∈ L, Prt n l
instance (n : Int) (L : List (List Int)) : Decidable (Lst n L) := by unfold Lst; infer_instance
def lst (n : Int) (L : List (List Int)) : Bool := decide (Lst n L)
def lstL (n : Int) (L : List (List Int)) : List (List Int) := if Lst n L then L else []
theorem lst_yes {n : Int} {L : List (List Int)} (h : Lst n L) : lst n L = true ∧ lstL n L = L := ⟨by simpa [lst] using h, by rw [lstL, if_pos h]⟩
theorem lst_no {n : Int} {L : List (List Int)} (h : ¬ Lst n L) : lst n L = false ∧ lstL n L = [] := ⟨by simpa [lst] using h, by rw [lstL, if_neg h]⟩

set_option maxRecDepth 10000 in
set_option maxHeartbeats 1000000 in
theorem readParts_any (A : Option Addr) (m c H : Nat) (L : List (List Int)) (n : Int) (w : World) (h : RdS w H A m L) (hH : H ≤ w.heap.size) (hm : m ≤ 9223372036854775807) (hr : ∀ k, k < m → (rowK L k).length ≤ 1048576) :
    Calls Tryd.prog 21 #[.int .i64 n, .slice A m c] w fun e w' => ∃ v, e = .returned (.tuple #[v, .bool (lst n L)]) ∧ PrtS w' w.heap.size v (lstL n L) ∧ Below w.heap.size w w' := by
  have HL := Lib.hid h.len
  have HA := Lib.hid (askI_any n w)
  by_cases ha : 3 ≤ n ∧ n ≤ 6
  · have ha' : asked n = true := by simp [asked]; omega
    rw [ha'] at HA
    by_cases hm10 : m ≤ 10
    · have HC := Lib.hid (each_part A m c H L n w h hH (by omega) hr)
      have T : Hid (lst n L = allB (prt n) L ∧ lstL n L = allL (prt n) L) := by
        by_cases hall : ∀ l ∈ L, Prt n l
        · have h1 := all_yes (q := prt n) (L := L) (fun l hl => prt_yes (hall l hl))
          have h2 := lst_yes (n := n) (L := L) ⟨ha, by rw [HL.out]; exact hm10, hall⟩
          exact ⟨by rw [h1.1, h2.1], by rw [h1.2, h2.2]⟩
        · have h2 := lst_no (n := n) (L := L) (fun hh => hall hh.2.2)
          have h3 : ¬ ∀ l ∈ L, prt n l = true := fun hh => hall (fun l hl => by simpa [prt] using hh l hl)
          have h4 : allB (prt n) L = false := by rw [Bool.eq_false_iff]; intro e; exact h3 (allB_iff.1 e)
          exact ⟨by rw [h4, h2.1], by rw [h2.2, allL, if_neg (by rw [h4]; simp)]⟩
      rw [T.out.1, T.out.2]
      have hg : decide ((m : Int) > 10) = false := by simp; omega
      clear h ha ha' T
      generalize allB (prt n) L = r at *
      generalize allL (prt n) L = R at *
      go_enter Tryd.func21, Tryd.ntmps21
      go_wp2_with (first
        | (go_at_call 41; refine HA.out.mono ?_; rintro e w' ⟨rfl, rfl⟩)
        | (refine HC.out.mono ?_; rintro e w2 ⟨v2, rfl, hp2, hb2⟩; obtain ⟨A2, c2, rfl, _⟩ := hp2.slice; have HP2 := Lib.hid hp2; clear hp2))
      go_ret2
      exact ⟨_, rfl, HP2.out, hb2⟩
    · have T := Lib.hid (lst_no (n := n) (L := L) (fun hh => by have := hh.2.1; rw [HL.out] at this; omega))
      rw [T.out.1, T.out.2]
      have hg : decide ((m : Int) > 10) = true := by simp; omega
      clear h ha ha' T
      go_enter Tryd.func21, Tryd.ntmps21
      go_wp2_with (first
        | (go_at_call 41; refine HA.out.mono ?_; rintro e w' ⟨rfl, rfl⟩))
      go_ret2
      exact ⟨_, rfl, PrtS.nil _ _, Below.refl _ _⟩
  · have ha' : asked n = false := by simp [asked]; omega
    rw [ha'] at HA
    have T := Lib.hid (lst_no (n := n) (L := L) (fun hh => ha hh.1))
    rw [T.out.1, T.out.2]
    clear h ha ha' T
    go_enter Tryd.func21, Tryd.ntmps21
    go_wp2_with (first
      | (go_at_call 41; refine HA.out.mono ?_; rintro e w' ⟨rfl, rfl⟩))
    go_ret2
    exact ⟨_, rfl, PrtS.nil _ _, Below.refl _ _⟩
end Go.Proofs.YtgojojoanhilnabDoor
