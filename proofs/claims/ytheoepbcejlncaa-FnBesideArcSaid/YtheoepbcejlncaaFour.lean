/- The model's check of four different points. -/
import Derived.Test.YtheoepbcejlncaaPar
namespace Go.Proofs.Ytheoepbcejlncaa
open Go.ChangeShapes Go.WideShapes Go.ChangeAt Go.RowKit

theorem and_small (a b : Nat) (ha : a < 128) (hb : b < 128) : bits .and .i64 (a : Int) (b : Int) = ((a &&& b : Nat) : Int) := by
  have key : ∀ x : Fin 128, (BitVec.ofInt 64 ((x.val : Nat) : Int)).toNat = x.val := fun x => by
    have := x.isLt
    simp only [BitVec.toNat_ofInt]
    omega
  have e1 := key ⟨a, ha⟩
  have e2 := key ⟨b, hb⟩
  simp only at e1 e2
  have hlt : a &&& b < 128 := Nat.lt_of_le_of_lt Nat.and_le_left ha
  change IntKind.i64.wrap ((BitVec.ofInt 64 (a : Int) &&& BitVec.ofInt 64 (b : Int)).toNat : Int) = _
  simp only [IntKind.wrap_i64, BitVec.toNat_and, e1, e2]
  omega
theorem mask_in (l : List Int) (h : ∀ y ∈ l, 0 ≤ y ∧ y < 7) (x : Int) (h0 : 0 ≤ x) : (bits BinOp.and IntKind.i64 (maskI l / 2 ^ x.toNat) 1 == 1) = decide (x ∈ l) := by
  obtain ⟨e, hlt⟩ := mask_eq l h 0 (by omega)
  have hb := mask_bit l (fun y hy => (h y hy).1) x.toNat 0
  rw [Int.toNat_of_nonneg h0, Nat.zero_testBit, Bool.false_or] at hb
  change maskI l = ((l.foldl (fun s x => s ||| 2 ^ x.toNat) 0 : Nat) : Int) at e
  rw [e]
  generalize l.foldl (fun s x => s ||| 2 ^ x.toNat) 0 = M at *
  have hd : (M : Int) / 2 ^ x.toNat = ((M / 2 ^ x.toNat : Nat) : Int) := by simp
  have hle : M / 2 ^ x.toNat ≤ M := Nat.div_le_self _ _
  have h1 := and_small (M / 2 ^ x.toNat) 1 (by omega) (by omega)
  rw [Nat.and_one_is_mod] at h1
  rw [hd, show (1 : Int) = ((1 : Nat) : Int) from rfl, h1, ← hb, Nat.testBit_eq_decide_div_mod_eq]
  rw [Bool.eq_iff_iff]
  simp
  omega

end Go.Proofs.Ytheoepbcejlncaa
