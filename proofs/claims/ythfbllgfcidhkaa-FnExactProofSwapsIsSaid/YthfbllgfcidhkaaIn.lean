/- The law on RingIn: the model and the program call the same lists rings. -/
import Derived.Test.YthfbllgfcidhkaaRing
namespace Go.Proofs.Ythfbllgfcidhkaa
open Go.ChangeShapes Go.WideShapes Go.ChangeAt Go.RowKit

theorem ringS_any (A : Option Addr) (n c H : Nat) (l : List Int) (w : World) (h : Rd w H A n l) (hn : n ≤ 1048576) :
    Calls Try.prog 45 #[.slice A n c] w fun e w' => e = .returned (.bool (ringB l)) ∧ w = w' := by
  have he := fun W hW => Lib.hid (every_any A n c H l W hW hn)
  have HL := Lib.hid h.len
  have HE := Lib.hid he
  clear he
  by_cases ht : Tell l
  · have h3 : 0 < n := by have := ht.1; rw [HL.out] at this; omega
    obtain ⟨b, o, rfl, hbH, hcs⟩ := h.at_ h3
    have hc := hcs 0 h3
    rw [Nat.add_zero] at hc
    rw [tell_yes ht] at HE
    have hr : ringB l = decide (l.getD 0 0 = 0) := by
      simp only [ringB, decide_eq_decide]
      exact ⟨fun hh => hh.2, fun hh => ⟨ht, hh⟩⟩
    rw [hr]
    clear hcs hr ht
    generalize l.getD 0 0 = x at hc ⊢
    go_enter Try.func45, Try.ntmps45
    go_wp2_with (go_at_call 67; refine ((HE.out _ h).out).mono ?_; rintro e w' ⟨rfl, rfl⟩)
    go_ret
    exact ⟨rfl, rfl⟩
  · have hr : ringB l = false := ring_no fun hh => ht hh.1
    rw [tell_no ht] at HE
    rw [hr]
    clear hr ht
    go_enter Try.func45, Try.ntmps45
    go_wp2_with (go_at_call 67; refine ((HE.out _ h).out).mono ?_; rintro e w' ⟨rfl, rfl⟩)
    go_ret
    exact ⟨rfl, rfl⟩

theorem ringP_length (l : List Int) : (ringP l).length = 7 := by
  unfold ringP
  split
  · rename_i h; exact padR_length l h.1.2.1
  · rfl

end Go.Proofs.Ythfbllgfcidhkaa
