/- Points of a ring: the program's look, the model's look. -/
import Derived.Test.YtgjgpnmldlnmgaaIn
import Derived.Test.YtgjgpnmldlnmgaaList
namespace Go.Proofs.Ytgjgpnmldlnmgaa
open Go.ChangeShapes Go.WideShapes Go.ChangeAt Go.RowKit

theorem has_any (l : List Int) (x : Int) (w : World) (hl : l.length ≤ 7) (hp : ∀ x ∈ l, 0 ≤ x) :
    Calls Try.prog 69 #[agp l, .int .i64 x] w fun e w' => e = .returned (.bool (decide (0 ≤ x ∧ x < l.length))) ∧ Below w.heap.size w w' := by
  obtain ⟨a0, a1, a2, a3, a4, a5, a6, hP⟩ := seven (padR_length l hl)
  have HS := fun W => Lib.hid (size_any l W hl hp)
  unfold agp at HS ⊢
  rw [hP] at HS ⊢
  simp only [ints, List.map_cons, List.map_nil] at HS ⊢
  have HSS := Lib.hid HS
  clear hP hp HS hl
  generalize l.length = n at *
  have hb1 := Lib.hid ((Below.refl w.heap.size w).alloc (Nat.le_refl _) (.cells #[.int .i64 a0, .int .i64 a1, .int .i64 a2, .int .i64 a3, .int .i64 a4, .int .i64 a5, .int .i64 a6] 49))
  have hb2 := Lib.hid (hb1.out.alloc (by simp) (.cells #[.int .i64 a0, .int .i64 a1, .int .i64 a2, .int .i64 a3, .int .i64 a4, .int .i64 a5, .int .i64 a6] 49))
  by_cases h0 : 0 ≤ x
  · by_cases h1 : x < (n : Int)
    all_goals
      go_enter Try.func69, Try.ntmps69
      go_wp2_with (go_at_call 92; refine ((HSS.out _).out).mono ?_; rintro e w' ⟨rfl, rfl⟩)
      go_ret
      exact ⟨by simp_all, hb2.out⟩
  · have hd : decide (0 ≤ x ∧ x < (n : Int)) = false := by simp; omega
    rw [hd]
    clear hd
    go_enter Try.func69, Try.ntmps69
    go_wp2_with fail
    go_ret
    exact ⟨rfl, hb1.out⟩

/-- A ring and a point of it. -/
def hasB (l : List Int) (x : Int) : Bool := ringB l && decide (0 ≤ x ∧ x < l.length)

theorem hasS_any (A : Option Addr) (n c H : Nat) (l : List Int) (x : Int) (w : World) (h : Rd w H A n l) (hn : n ≤ 1048576) :
    Calls Try.prog 73 #[.slice A n c, .int .i64 x] w fun e w' => e = .returned (.bool (hasB l x)) ∧ w = w' := by
  have he := fun W hW => Lib.hid (ringS_any A n c H l W hW hn)
  have HE := Lib.hid he
  have HL := Lib.hid h.len
  clear he
  unfold hasB
  rw [HL.out]
  by_cases ht : Ring l
  · have h3 := ht.1.1
    rw [HL.out] at h3
    have e : decide (0 ≤ x ∧ x < (n : Int)) = (decide (0 ≤ x) && decide (x ≤ (n : Int) - 1)) := by
      rw [Bool.eq_iff_iff]; simp; omega
    rw [ring_yes ht] at HE ⊢
    rw [e]
    clear e ht
    go_enter Try.func73, Try.ntmps73
    go_wp2_with (first
      | (go_at_call 19; refine ((HE.out _ h).out).mono ?_; rintro e w' ⟨rfl, rfl⟩)
      | (go_at_call 86; refine (in_any _ _ _ _).mono ?_; rintro e w' ⟨rfl, rfl⟩))
    go_ret
    exact ⟨rfl, rfl⟩
  · rw [ring_no ht] at HE ⊢
    clear ht
    go_enter Try.func73, Try.ntmps73
    go_wp2_with (go_at_call 19; refine ((HE.out _ h).out).mono ?_; rintro e w' ⟨rfl, rfl⟩)
    go_ret
    exact ⟨rfl, rfl⟩

theorem hasB_yes {l : List Int} {x : Int} (h : hasB l x = true) : Ring l ∧ 0 ≤ x ∧ x < l.length ∧ x ∈ l := by
  simp only [hasB, ringB, Bool.and_eq_true, decide_eq_true_eq] at h
  exact ⟨h.1, h.2.1, h.2.2, h.1.1.has h.2.1 h.2.2⟩
end Go.Proofs.Ytgjgpnmldlnmgaa
