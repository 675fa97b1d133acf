/- The law on RingIn: the model and the program call the same lists rings. -/
import Derived.Test.YtnepagdfhoefpaaRing
namespace Go.Proofs.Ytnepagdfhoefpaa
open Go.ChangeShapes Go.WideShapes Go.ChangeAt Go.RowKit

theorem ringS_any (A : Option Addr) (n c H : Nat) (l : List Int) (w : World) (h : Rd w H A n l) (hn : n ≤ 1048576) :
    Calls Try.prog 15 #[.slice A n c] w fun e w' => e = .returned (.bool (ringB l)) ∧ w = w' := by
  have he := fun W hW => Lib.hid (every_any A n c H l W hW hn)
  have HL := Lib.hid h.len
  have HE := Lib.hid he
  clear he
  by_cases ht : Tell l
  · have h3 : 0 < n := by have := ht.1; rw [HL.out] at this; omega
    obtain ⟨b, o, rfl, hbH, hcs⟩ := h.at_ h3
    have hc := hcs 0 h3
    rw [Nat.add_zero] at hc
    rw [tell_yes ht] at HE
    have hr : ringB l = decide (l.getD 0 0 = 0) := by
      simp only [ringB, decide_eq_decide]
      exact ⟨fun hh => hh.2, fun hh => ⟨ht, hh⟩⟩
    rw [hr]
    clear hcs hr ht
    generalize l.getD 0 0 = x at hc ⊢
    go_enter Try.func15, Try.ntmps15
    go_wp2_with (go_at_call 43; refine ((HE.out _ h).out).mono ?_; rintro e w' ⟨rfl, rfl⟩)
    go_ret
    exact ⟨rfl, rfl⟩
  · have hr : ringB l = false := ring_no fun hh => ht hh.1
    rw [tell_no ht] at HE
    rw [hr]
    clear hr ht
    go_enter Try.func15, Try.ntmps15
    go_wp2_with (go_at_call 43; refine ((HE.out _ h).out).mono ?_; rintro e w' ⟨rfl, rfl⟩)
    go_ret
    exact ⟨rfl, rfl⟩

theorem ringP_length (l : List Int) : (ringP l).length = 7 := by
  unfold ringP
  split
  · rename_i h; exact padR_length l h.1.2.1
  · rfl

theorem ringI_any (A : Option Addr) (n c H : Nat) (l : List Int) (w : World) (h : Rd w H A n l) (hH : H ≤ w.heap.size) (hn : n ≤ 1048576) (hnc : n ≤ c) (hcm : c ≤ 9223372036854775807) :
    Calls Try.prog 17 #[.slice A n c] w fun e w' => e = .returned (.bool (ringB l)) ∧ Below w.heap.size w w' := by
  have H7 := Lib.hid (ringP_length l)
  go_enter Try.func17, Try.ntmps17
  go_wp2_with fail
  refine (readR_any A n c H l w h hH hn hnc hcm).mono ?_
  rintro e W1 ⟨rfl, hb1⟩
  have HA := Lib.hid (new_ring W1)
  generalize ringP l = P at *
  go_wp2_with (refine store_ring rfl _ _ rfl W1.heap.size zero7 P rfl H7.out rfl rfl HA ?_; intro w2 HA2 hg2 hs2)
  go_ret
  exact ⟨rfl, (hb1.alloc hb1.size _).grown hg2 (by have := hb1.size; simp; omega) (by have := hb1.size; simp; omega)⟩

set_option maxHeartbeats 1000000 in
theorem law_RingIn (a0 : Option Addr) (len0 cap0 : Nat) (z0 : List Int) (w : World) (w0 : IsRow .i64 w a0 len0 cap0 z0) :
    Calls Try.prog 3 #[.slice a0 len0 cap0] w fun e w' => e = .returned (.bool true) ∧ Below w.heap.size w w' := by
  obtain ⟨h, hlc, hcm⟩ := rd_of_row w0
  clear w0
  generalize z0.take len0 = l at h
  by_cases hn : len0 ≤ 1048576
  · go_enter Try.func3, Try.ntmps3
    go_wp2_with fail
    refine (toIntS_any a0 len0 cap0 l w h hn).mono ?_
    rintro e w1 ⟨rfl, ho1, hb1⟩
    have hr1 := h.below hb1
    go_wp2_with fail
    refine (ringS_any _ len0 len0 _ l w1 ho1.rd.2 hn).mono ?_
    rintro e w' ⟨rfl, rfl⟩
    go_wp2_with fail
    refine (toIntS_any a0 len0 cap0 l w1 (hr1.more hb1.size) hn).mono ?_
    rintro e w2 ⟨rfl, ho2, hb2⟩
    have hr2 := hr1.below (hb2.mono hb1.size)
    go_wp2_with fail
    refine (ringI_any _ len0 len0 _ l w2 ho2.rd.2 (Nat.le_refl _) hn (Nat.le_refl _) (by omega)).mono ?_
    rintro e w3 ⟨rfl, hb3⟩
    have hr3 := hr2.below (hb3.mono (Nat.le_trans hb1.size hb2.size))
    have ho3 := ho2.rd.2.below hb3
    go_wp2_with fail
    refine (toIntS_any a0 len0 cap0 l w3 (hr3.more (Nat.le_trans hb1.size (Nat.le_trans hb2.size hb3.size))) hn).mono ?_
    rintro e w4 ⟨rfl, ho4, hb4⟩
    go_wp2_with fail
    refine (eqIntS_any _ _ len0 len0 len0 len0 l l w4.heap.size w4 ((ho3.below (hb4.mono hb3.size)).more (Nat.le_trans hb3.size hb4.size)) ho4.rd.2 hn hn).mono ?_
    rintro e w5 ⟨rfl, hb5⟩
    have hs : same l l = true := by simp [same]
    rw [hs]
    go_wp2_with fail
    go_ret
    exact ⟨rfl, ((((hb1.trans (hb2.mono hb1.size)).trans (hb3.mono (Nat.le_trans hb1.size hb2.size))).trans (hb4.mono (Nat.le_trans hb1.size (Nat.le_trans hb2.size hb3.size)))).trans
      (hb5.mono (Nat.le_trans hb1.size (Nat.le_trans hb2.size (Nat.le_trans hb3.size hb4.size)))))⟩
  · go_enter Try.func3, Try.ntmps3
    go_wp2_with fail
    go_ret
    exact ⟨rfl, Below.refl _ _⟩
end Go.Proofs.Ytnepagdfhoefpaa
