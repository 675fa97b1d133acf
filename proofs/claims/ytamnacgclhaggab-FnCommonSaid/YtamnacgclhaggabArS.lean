/- Arcs in the model: how many, whether there are a ring and a set, the first and the last point. -/
import Derived.Test.YtamnacgclhaggabArM
import Derived.Test.YtamnacgclhaggabMA
import Derived.Test.YtamnacgclhaggabWvI
namespace Go.Proofs.Ytamnacgclhaggab
open Go.ChangeShapes Go.WideShapes Go.ChangeAt Go.RowKit

/-- What a round of the loop over a ring wants of the next place. -/
theorem next_place (n k : Nat) (h1 : 1 ≤ n) (h7 : n ≤ 7) (hk : k < n) : IntKind.i64.wrap ((k : Int) + 1) = (k : Int) + 1 ∧ Int.tmod ((k : Int) + 1) (n : Int) = ((k : Int) + 1) % (n : Int) ∧ (((k : Int) + 1) % (n : Int)).toNat = (k + 1) % n ∧ 0 ≤ ((k : Int) + 1) % (n : Int) ∧ ((k : Int) + 1) % (n : Int) < (n : Int) ∧ IntKind.i64.wrap (((k : Int) + 1) % (n : Int)) = ((k : Int) + 1) % (n : Int) := by
  have hmi : ((k : Int) + 1) % (n : Int) < (n : Int) := Int.emod_lt_of_pos _ (by omega)
  have hmo : 0 ≤ ((k : Int) + 1) % (n : Int) := Int.emod_nonneg _ (by omega)
  refine ⟨IntWalk.i64_in _ (by omega), Int.tmod_eq_emod_of_nonneg (by omega), ?_, hmo, hmi, IntWalk.i64_in _ (by omega)⟩
  have e : ((k : Int) + 1) % (n : Int) = (((k + 1) % n : Nat) : Int) := by simp
  rw [e, Int.toNat_natCast]

set_option maxRecDepth 10000 in
set_option maxHeartbeats 1000000 in
theorem runS_any (A : Option Addr) (n c H : Nat) (l : List Int) (s : Nat) (w : World) (h : Rd w H A n l) (h1 : 1 ≤ n) (h7 : n ≤ 7) (hp : ∀ x ∈ l, 0 ≤ x ∧ x < 7) (hs : s < 128) :
    Calls Try.prog 99 #[.slice A n c, .int .i64 (s : Int)] w fun e w' => e = .returned (.int .i64 (runN (hasN s) l : Int)) ∧ w = w' := by
  have HL := Lib.hid h.len
  have HP := Lib.hid (fun k (hk : k < n) => hp _ (getD_mem l k (by rw [HL.out]; exact hk)))
  have HB := Lib.hid (fun x : Int => shr_bit s x hs)
  have HST := Lib.hid (fun k => runP_step (hasN s) l k)
  have HLN := Lib.hid (fun k => runP_len (hasN s) l k)
  have HBG : Hid (∀ k, begs (hasN s) l k = (!hasN s (l.getD k 0) && hasN s (l.getD ((k + 1) % n) 0))) := fun k => by rw [begs, HL.out]
  have HRN : Hid (runN (hasN s) l = (runP (hasN s) l n).length) := by rw [Hid, runN, HL.out]
  rw [HRN.out]
  obtain ⟨b, o, rfl, hbH, hcs⟩ := h.at_ (by omega)
  have HCS := Lib.hid hcs
  clear h hp hcs HRN
  obtain ⟨R, hR⟩ : ∃ R : Nat → Nat, R = fun k => (runP (hasN s) l k).length := ⟨_, rfl⟩
  have HST' : Hid (∀ k, R (k + 1) = R k + if begs (hasN s) l k then 1 else 0) := by rw [hR]; exact HST.out
  have HLN' : Hid (∀ k, R k ≤ k) := by rw [hR]; exact HLN.out
  have HR0 : Hid (R 0 = 0) := by rw [hR]; rfl
  rw [show (runP (hasN s) l n).length = R n by rw [hR]]
  clear hR HST HLN
  go_enter Try.func99, Try.ntmps99
  go_wp2
  go_loop [5, 6] (fun v i => ∃ k : Nat, k ≤ n ∧ v = .int .i64 (R k : Int) ∧ i = .int .i64 k) (fun _ i => n - (intOf i).toNat)
  case atStart => exact ⟨0, Nat.zero_le _, by rw [HR0.out]; rfl, rfl⟩
  case round =>
    obtain ⟨k, hk, rfl, rfl⟩ := hrel
    by_cases hlt : k < n
    · have hc := HCS.out k hlt
      have hmod : (k + 1) % n < n := Nat.mod_lt _ (by omega)
      have hc1 := HCS.out ((k + 1) % n) hmod
      have hx := HP.out k hlt
      have hy := HP.out ((k + 1) % n) hmod
      have hst := HST'.out k
      rw [HBG.out] at hst
      have hl1 := HLN'.out k
      have hl2 := HLN'.out (k + 1)
      obtain ⟨hw1, htm, htn, hmo, hmi, hw2⟩ := next_place n k h1 h7 hlt
      have hnz : ¬ n = 0 := by omega
      generalize l.getD k 0 = x at *
      generalize l.getD ((k + 1) % n) 0 = y at *
      have hbx := (HB.out x).2
      have hby := (HB.out y).1
      have hx0 := hx.1
      have hy0 := hy.1
      have hx7 := hx.2
      have hy7 := hy.2
      clear hx hy
      obtain ⟨r1, hr1⟩ : ∃ r1, r1 = R (k + 1) := ⟨_, rfl⟩
      rw [← hr1] at hst hl2
      have HR1 := Lib.hid hr1
      obtain ⟨r, hr⟩ : ∃ r, r = R k := ⟨_, rfl⟩
      rw [← hr] at hst hl1 ⊢
      clear hr1 hr
      cases hX : hasN s x <;> cases hY : hasN s y
      all_goals
        rw [hX] at hbx hst
        rw [hY] at hby hst
        simp only [Bool.not_true, Bool.not_false, Bool.and_true, Bool.and_false, if_true, Bool.false_eq_true, if_false, Nat.add_zero] at hbx hby hst
        have HS := Lib.hid hst
        clear hst hX hY
        go_wp2_with fail
        go_round
        case rel => exact ⟨k + 1, by omega, by rw [← HR1.out, HS.out]; try go_num, by go_num⟩
        case measure => simp [intOf]; omega
    · obtain rfl : k = n := by omega
      go_wp2
      go_ret
      exact ⟨rfl, rfl⟩

theorem inQ7 (n a b : Int) (r : Bool) (h : (decide (a ≤ n) && decide (n ≤ b)) = r) (w : World) : Calls Try.prog 117 #[.int .i64 n, .int .i64 a, .int .i64 b] w fun e w' => e = .returned (.bool r) ∧ w = w' := by
  subst h
  exact in_any n a b w
/-- A ring and a set of its points. -/
def SetL (l : List Int) (s : Int) : Prop := Ring l ∧ 0 ≤ s ∧ s ≤ 2 ^ l.length - 1
instance (l : List Int) (s : Int) : Decidable (SetL l s) := inferInstanceAs (Decidable (_ ∧ _))
def setB (l : List Int) (s : Int) : Bool := decide (SetL l s)
theorem set_yes {l : List Int} {s : Int} (h : SetL l s) : setB l s = true := by simpa [setB] using h
theorem set_no {l : List Int} {s : Int} (h : ¬ SetL l s) : setB l s = false := by simpa [setB] using h
theorem SetL.nat {l : List Int} {s : Int} (h : SetL l s) : ∃ k : Nat, s = (k : Int) ∧ k < 2 ^ l.length ∧ k < 128 := by
  have h1 := h.2.2
  have h2 := h.2.1
  have e : ((2 ^ l.length : Nat) : Int) = 2 ^ l.length := by simp
  have h3 : s.toNat < 2 ^ l.length := by omega
  exact ⟨s.toNat, by omega, h3, fits _ _ h.1.1.2.1 h3⟩
theorem SetL.bd {l : List Int} {s : Int} (h : SetL l s) : ∀ x ∈ l, 0 ≤ x ∧ x < 7 := fun x hx => by
  have := h.1.1.2.2.1 x hx
  have := h.1.1.2.1
  omega

/-- Whether a set is an arc of a ring; how many arcs it comes apart into. -/
def arcB (l : List Int) (s : Int) : Bool := setB l s && decide (runN (hasN s.toNat) l = 1)
def runR (l : List Int) (s : Int) : Int := if setB l s then (runN (hasN s.toNat) l : Int) else 0

end Go.Proofs.Ytamnacgclhaggab
