/- Arcs in the model: how many, whether there are a ring and a set, the first and the last point. -/
import Derived.Test.YthpomflpnmddoaaGreatDoorArM
import Derived.Test.YthpomflpnmddoaaGreatDoorMA
import Derived.Test.YthpomflpnmddoaaGreatDoorWvI
namespace Go.Proofs.YthpomflpnmddoaaGreatDoor
open Go.ChangeShapes Go.WideShapes Go.ChangeAt Go.RowKit

/-- What a round of the loop over a ring wants of the next place. -/
theorem next_place (n k : Nat) (h1 : 1 ≤ n) (h7 : n ≤ 7) (hk : k < n) : IntKind.i64.wrap ((k : Int) + 1) = (k : Int) + 1 ∧ Int.tmod ((k : Int) + 1) (n : Int) = ((k : Int) + 1) % (n : Int) ∧ (((k : Int) + 1) % (n : Int)).toNat = (k + 1) % n ∧ 0 ≤ ((k : Int) + 1) % (n : Int) ∧ ((k : Int) + 1) % (n : Int) < (n : Int) ∧ IntKind.i64.wrap (((k : Int) + 1) % (n : Int)) = ((k : Int) + 1) % (n : Int) := by
  have hmi : ((k : Int) + 1) % (n : Int) < (n : Int) := Int.emod_lt_of_pos _ (by omega)
  have hmo : 0 ≤ ((k : Int) + 1) % (n : Int) := Int.emod_nonneg _ (by omega)
  refine ⟨IntWalk.i64_in _ (by omega), Int.tmod_eq_emod_of_nonneg (by omega), ?_, hmo, hmi, IntWalk.i64_in _ (by omega)⟩
  have e : ((k : Int) + 1) % (n : Int) = (((k + 1) % n : Nat) : Int) := by simp
  rw [e, Int.toNat_natCast]

theorem inQ7 (n a b : Int) (r : Bool) (h : (decide (a ≤ n) && decide (n ≤ b)) = r) (w : World) : Calls Tryz.prog 76 #[.int .i64 n, .int .i64 a, .int .i64 b] w fun e w' => e = .returned (.bool r) ∧ w = w' := by
  subst h
  exact in_any n a b w
/-- A ring and a set of its points. -/
def SetL (l : List Int) (s : Int) : Prop := Ring l ∧ 0 ≤ s ∧ s ≤ 2 ^ l.length - 1
instance (l : List Int) (s : Int) : Decidable (SetL l s) := inferInstanceAs (Decidable (_ ∧ _))
def setB (l : List Int) (s : Int) : Bool := decide (SetL l s)
theorem set_yes {l : List Int} {s : Int} (h : SetL l s) : setB l s = true := by simpa [setB] using h
theorem set_no {l : List Int} {s : Int} (h : ¬ SetL l s) : setB l s = false := by simpa [setB] using h
theorem SetL.nat {l : List Int} {s : Int} (h : SetL l s) : ∃ k : Nat, s = (k : Int) ∧ k < 2 ^ l.length ∧ k < 128 := by
  have h1 := h.2.2
  have h2 := h.2.1
  have e : ((2 ^ l.length : Nat) : Int) = 2 ^ l.length := by simp
  have h3 : s.toNat < 2 ^ l.length := by omega
  exact ⟨s.toNat, by omega, h3, fits _ _ h.1.1.2.1 h3⟩
theorem SetL.bd {l : List Int} {s : Int} (h : SetL l s) : ∀ x ∈ l, 0 ≤ x ∧ x < 7 := fun x hx => by
  have := h.1.1.2.2.1 x hx
  have := h.1.1.2.1
  omega

/-- Whether a set is an arc of a ring; how many arcs it comes apart into. -/
def arcB (l : List Int) (s : Int) : Bool := setB l s && decide (runN (hasN s.toNat) l = 1)
def runR (l : List Int) (s : Int) : Int := if setB l s then (runN (hasN s.toNat) l : Int) else 0

end Go.Proofs.YthpomflpnmddoaaGreatDoor
