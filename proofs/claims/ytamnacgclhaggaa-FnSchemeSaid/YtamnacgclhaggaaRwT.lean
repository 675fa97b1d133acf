/- A slice of rows without its first one. -/
import Derived.Test.YtamnacgclhaggaaRwS
namespace Go.Proofs.Ytamnacgclhaggaa
open Go.ChangeShapes Go.WideShapes Go.ChangeAt Go.RowKit

theorem tot_tail (L : List (List Int)) : tot (L.drop 1) ≤ tot L := by
  match L with
  | [] => exact Nat.le_refl _
  | a :: t =>
    have key : ∀ k, sumTo (a :: t) (k + 1) = a.length + sumTo t k := fun k => by
      induction k with
      | zero => simp [sumTo, rowK]
      | succ k ih =>
        rw [show sumTo (a :: t) (k + 1 + 1) = sumTo (a :: t) (k + 1) + (rowK (a :: t) (k + 1)).length from rfl, ih]
        simp [sumTo, rowK, List.getD]
        omega
    have := key t.length
    unfold tot
    simp only [List.drop_succ_cons, List.drop_zero, List.length_cons]
    omega
theorem RwS.tail {w : World} {n c b o : Nat} {L : List (List Int)} (h : RwS w (some ⟨b, o, none⟩) n c L) (hn : 0 < n) : RwS w (some ⟨b, o + 1, none⟩) (n - 1) (c - 1) (L.drop 1) := by
  have hl := h.len
  refine ⟨⟨⟨by rw [List.length_drop, hl], fun hn1 => ?_⟩, Nat.le_trans (tot_tail L) h.1.2⟩, Nat.zero_le _⟩
  obtain ⟨b', o', e, hb, hc⟩ := h.rd.at_ hn
  injection e with e
  injection e with e1 e2 _
  subst e1; subst e2
  refine ⟨b, o + 1, rfl, hb, fun k hk => ?_⟩
  have := hc (k + 1) (by omega)
  have er : rowK (L.drop 1) k = rowK L (k + 1) := by simp [rowK, List.getD]
  rw [er, show o + 1 + k = o + (k + 1) by omega]
  exact this
theorem RwS.none0 (w : World) (A : Option Addr) : RwS w A 0 0 [] := ⟨⟨⟨rfl, fun h => absurd h (by omega)⟩, by simp [tot, sumTo]⟩, Nat.zero_le _⟩
end Go.Proofs.Ytamnacgclhaggaa
