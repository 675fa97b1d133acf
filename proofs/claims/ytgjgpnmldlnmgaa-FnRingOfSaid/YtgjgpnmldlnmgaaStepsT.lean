/- RingSteps of the model and of the program. -/
import Derived.Test.YtgjgpnmldlnmgaaNextT
import Derived.Test.YtgjgpnmldlnmgaaNext
namespace Go.Proofs.Ytgjgpnmldlnmgaa
open Go.ChangeShapes Go.WideShapes Go.ChangeAt Go.RowKit

/-- Two points of a ring. -/
def hasB2 (l : List Int) (x y : Int) : Bool := hasB l x && hasB l y
def stepsR (l : List Int) (x y : Int) : Int := if hasB2 l x y then stepsI l x y else 0

theorem st_any (A : Option Addr) (n c H : Nat) (l : List Int) (x y : Int) (w : World) (h : Rd w H A n l) (h1 : 1 ≤ n) (hn : n ≤ 7) (hx : x ∈ l) (hy : y ∈ l) :
    Calls Try.prog 77 #[.slice A n c, .int .i64 x, .int .i64 y] w fun e w' => e = .returned (.int .i64 (stepsI l x y)) ∧ w = w' := by
  have hX := fun W hW => Lib.hid (at_any A n c H l x W hW (by omega) hx)
  have hY := fun W hW => Lib.hid (at_any A n c H l y W hW (by omega) hy)
  have HX := Lib.hid hX
  have HY := Lib.hid hY
  have hidx : l.idxOf x < n := by rw [← h.len]; exact List.idxOf_lt_length_of_mem hx
  have hidy : l.idxOf y < n := by rw [← h.len]; exact List.idxOf_lt_length_of_mem hy
  have HL := Lib.hid h.len
  unfold stepsI
  rw [HL.out]
  clear hX hY hx hy
  generalize l.idxOf x = s at *
  generalize l.idxOf y = t at *
  go_enter Try.func77, Try.ntmps77
  go_wp2_with fail
  refine ((HY.out _ h).out).mono ?_
  rintro e w' ⟨rfl, rfl⟩
  go_wp2_with fail
  refine ((HX.out _ h).out).mono ?_
  rintro e w' ⟨rfl, rfl⟩
  go_wp2
  go_ret
  have e : ((t : Int) - (s : Int) + (n : Int)) % (n : Int) = ((t : Int) - (s : Int)) % (n : Int) := Int.add_emod_right ..
  exact ⟨by rw [← e]; rfl, rfl⟩

set_option maxHeartbeats 1000000 in
theorem spS_any (A : Option Addr) (n c H : Nat) (l : List Int) (x y : Int) (w : World) (h : Rd w H A n l) (_ : H ≤ w.heap.size) (hn : n ≤ 1048576) :
    Calls Try.prog 38 #[.slice A n c, .int .i64 x, .int .i64 y] w fun e w' => e = .returned (.tuple #[.int .i64 (stepsR l x y), .bool (hasB2 l x y)]) ∧ Below w.heap.size w w' := by
  have hX := fun W hW => Lib.hid (hasS_any A n c H l x W hW hn)
  have hY := fun W hW => Lib.hid (hasS_any A n c H l y W hW hn)
  have HX := Lib.hid hX
  have HY := Lib.hid hY
  have HL := Lib.hid h.len
  clear hX hY
  unfold stepsR hasB2
  cases hx : hasB l x
  · rw [hx] at HX
    clear hx HY
    rw [Bool.false_and, if_neg (by simp)]
    go_enter Try.func38, Try.ntmps38
    go_wp2_with fail
    refine ((HX.out _ h).out).mono ?_
    rintro e w' ⟨rfl, rfl⟩
    go_wp2
    go_ret2
    exact ⟨rfl, Below.refl _ _⟩
  · rw [hx] at HX
    cases hy : hasB l y
    · rw [hy] at HY
      clear hx hy
      rw [Bool.and_false, if_neg (by simp)]
      go_enter Try.func38, Try.ntmps38
      go_wp2_with fail
      refine ((HX.out _ h).out).mono ?_
      rintro e w' ⟨rfl, rfl⟩
      go_wp2_with fail
      refine ((HY.out _ h).out).mono ?_
      rintro e w' ⟨rfl, rfl⟩
      go_wp2
      go_ret2
      exact ⟨rfl, Below.refl _ _⟩
    · rw [hy] at HY
      have h3 := hasB_yes hx
      have h4 := hasB_yes hy
      have hS := fun W hW => Lib.hid (st_any A n c H l x y W hW (by have := h3.1.1.1; rw [HL.out] at this; omega) (by have := h3.1.1.2.1; rw [HL.out] at this; omega) h3.2.2.2 h4.2.2.2)
      have HS := Lib.hid hS
      clear hx hy h3 h4 hS
      rw [Bool.and_true, if_pos rfl]
      generalize stepsI l x y = r at *
      go_enter Try.func38, Try.ntmps38
      go_wp2_with fail
      refine ((HX.out _ h).out).mono ?_
      rintro e w' ⟨rfl, rfl⟩
      go_wp2_with fail
      refine ((HY.out _ h).out).mono ?_
      rintro e w' ⟨rfl, rfl⟩
      go_wp2_with fail
      refine ((HS.out _ h).out).mono ?_
      rintro e w' ⟨rfl, rfl⟩
      go_wp2
      go_ret2
      exact ⟨rfl, Below.refl _ _⟩

set_option maxHeartbeats 2000000 in
theorem spI_any (A : Option Addr) (n c H : Nat) (l : List Int) (x y : Int) (w : World) (h : Rd w H A n l) (hH : H ≤ w.heap.size) (hn : n ≤ 1048576) (hnc : n ≤ c) (hcm : c ≤ 9223372036854775807) :
    Calls Try.prog 28 #[.slice A n c, .int .i64 x, .int .i64 y] w fun e w' => e = .returned (.tuple #[.int .i64 (stepsR l x y), .bool (hasB2 l x y)]) ∧ Below w.heap.size w w' := by
  have hread := Lib.hid (readR_any A n c H l w h hH hn hnc hcm)
  by_cases hr : Ring l
  · have hl7 := hr.1.2.1
    obtain ⟨a0, a1, a2, a3, a4, a5, a6, hP⟩ := seven (padR_length l hl7)
    have hrp : ringP l = [a0, a1, a2, a3, a4, a5, a6] := by rw [ringP, if_pos hr, hP]
    have hhx := fun W => Lib.hid (has_any l x W hl7 hr.1.pos)
    have hhy := fun W => Lib.hid (has_any l y W hl7 hr.1.pos)
    have hix : hasB l x = decide (0 ≤ x ∧ x < l.length) := by rw [hasB, ring_yes hr, Bool.true_and]
    have hiy : hasB l y = decide (0 ≤ y ∧ y < l.length) := by rw [hasB, ring_yes hr, Bool.true_and]
    rw [← hix] at hhx
    rw [← hiy] at hhy
    unfold agp at hhx hhy
    rw [hP] at hhx hhy
    rw [hrp, ring_yes hr] at hread
    simp only [ints, List.map_cons, List.map_nil] at hhx hhy hread
    have HX := Lib.hid hhx
    have HY := Lib.hid hhy
    clear hhx hhy hix hiy hrp
    unfold stepsR hasB2
    cases htx : hasB l x
    · rw [htx] at HX
      rw [Bool.false_and, if_neg (by simp)]
      clear htx hr hP hl7 HY
      go_enter Try.func28, Try.ntmps28
      go_wp2_with fail
      refine hread.out.mono ?_
      rintro e W1 ⟨rfl, hb1⟩
      have HA := Lib.hid (new_ring W1)
      go_wp2_with (refine store_ring rfl _ _ rfl W1.heap.size zero7 [a0, a1, a2, a3, a4, a5, a6] rfl rfl rfl rfl HA ?_; intro w2 HA2 hg2 hs2; obtain ⟨c0, c1, c2, c3, c4, c5, c6⟩ := cells7 HA2.out; clear hs2)
      have hb2 := Lib.hid ((hb1.alloc hb1.size (.cells #[.int .i64 0, .int .i64 0, .int .i64 0, .int .i64 0, .int .i64 0, .int .i64 0, .int .i64 0] 49)).grown hg2 (by have := hb1.size; simp; omega) (by have := hb1.size; simp; omega))
      clear hg2 hb1
      refine ((HX.out _).out).mono ?_
      rintro e w3 ⟨rfl, hb3⟩
      have hb4 := Lib.hid (hb2.out.trans (hb3.mono hb2.out.size))
      clear hb3 c0 c1 c2 c3 c4 c5 c6
      go_wp2
      go_ret2
      exact ⟨rfl, hb4.out⟩
    · rw [htx] at HX
      cases hty : hasB l y
      · rw [hty] at HY
        rw [Bool.and_false, if_neg (by simp)]
        clear htx hty hr hP hl7
        go_enter Try.func28, Try.ntmps28
        go_wp2_with fail
        refine hread.out.mono ?_
        rintro e W1 ⟨rfl, hb1⟩
        have HA := Lib.hid (new_ring W1)
        go_wp2_with (refine store_ring rfl _ _ rfl W1.heap.size zero7 [a0, a1, a2, a3, a4, a5, a6] rfl rfl rfl rfl HA ?_; intro w2 HA2 hg2 hs2; obtain ⟨c0, c1, c2, c3, c4, c5, c6⟩ := cells7 HA2.out; clear hs2)
        have hb2 := Lib.hid ((hb1.alloc hb1.size (.cells #[.int .i64 0, .int .i64 0, .int .i64 0, .int .i64 0, .int .i64 0, .int .i64 0, .int .i64 0] 49)).grown hg2 (by have := hb1.size; simp; omega) (by have := hb1.size; simp; omega))
        clear hg2 hb1
        refine ((HX.out _).out).mono ?_
        rintro e w3 ⟨rfl, hb3⟩
        have hb4 := Lib.hid (hb2.out.trans (hb3.mono hb2.out.size))
        have HA3 := Lib.hid (HA2.out.below hb3 HA2.out.lt)
        obtain ⟨d0, d1, d2, d3, d4, d5, d6⟩ := cells7 HA3.out
        clear hb3 c0 c1 c2 c3 c4 c5 c6
        go_wp2_with fail
        refine ((HY.out _).out).mono ?_
        rintro e w4 ⟨rfl, hb5⟩
        have hb6 := Lib.hid (hb4.out.trans (hb5.mono hb4.out.size))
        clear hb5 d0 d1 d2 d3 d4 d5 d6
        go_wp2
        go_ret2
        exact ⟨rfl, hb6.out⟩
      · rw [hty] at HY
        have hcut := fun W => Lib.hid (steps_any l x y W (by have := hr.1.1; omega) hl7 hr.1.pos (hasB_yes htx).2.2.2 (hasB_yes hty).2.2.2)
        rw [Bool.and_true, if_pos rfl]
        unfold agp at hcut
        rw [hP] at hcut
        have HC := Lib.hid hcut
        clear htx hty hr hP hl7 hcut
        generalize stepsI l x y = r at *
        go_enter Try.func28, Try.ntmps28
        go_wp2_with fail
        refine hread.out.mono ?_
        rintro e W1 ⟨rfl, hb1⟩
        have HA := Lib.hid (new_ring W1)
        go_wp2_with (refine store_ring rfl _ _ rfl W1.heap.size zero7 [a0, a1, a2, a3, a4, a5, a6] rfl rfl rfl rfl HA ?_; intro w2 HA2 hg2 hs2; obtain ⟨c0, c1, c2, c3, c4, c5, c6⟩ := cells7 HA2.out; clear hs2)
        have hb2 := Lib.hid ((hb1.alloc hb1.size (.cells #[.int .i64 0, .int .i64 0, .int .i64 0, .int .i64 0, .int .i64 0, .int .i64 0, .int .i64 0] 49)).grown hg2 (by have := hb1.size; simp; omega) (by have := hb1.size; simp; omega))
        clear hg2 hb1
        refine ((HX.out _).out).mono ?_
        rintro e w3 ⟨rfl, hb3⟩
        have hb4 := Lib.hid (hb2.out.trans (hb3.mono hb2.out.size))
        have HA3 := Lib.hid (HA2.out.below hb3 HA2.out.lt)
        obtain ⟨d0, d1, d2, d3, d4, d5, d6⟩ := cells7 HA3.out
        clear hb3 c0 c1 c2 c3 c4 c5 c6
        go_wp2_with fail
        refine ((HY.out _).out).mono ?_
        rintro e w4 ⟨rfl, hb5⟩
        have hb6 := Lib.hid (hb4.out.trans (hb5.mono hb4.out.size))
        have HA4 := Lib.hid (HA3.out.below hb5 HA3.out.lt)
        clear hb5 d0 d1 d2 d3 d4 d5 d6
        go_wp2_with (refine load_ring rfl _ rfl W1.heap.size [a0, a1, a2, a3, a4, a5, a6] rfl rfl HA4 ?_)
        refine ((HC.out _).out).mono ?_
        rintro e w5 ⟨rfl, hb7⟩
        have hb8 := Lib.hid (hb6.out.trans (hb7.mono hb6.out.size))
        clear hb7
        go_wp2
        go_ret2
        exact ⟨rfl, hb8.out⟩
  · have ht : hasB2 l x y = false := by rw [hasB2, hasB, ring_no hr, Bool.false_and, Bool.false_and]
    have hR : stepsR l x y = 0 := by rw [stepsR, if_neg (by simp [ht])]
    have H7 := Lib.hid (ringP_length l)
    rw [hR, ht]
    rw [ring_no hr] at hread
    clear hR hr ht
    generalize ringP l = P at *
    go_enter Try.func28, Try.ntmps28
    go_wp2_with fail
    refine hread.out.mono ?_
    rintro e W1 ⟨rfl, hb1⟩
    have HA := Lib.hid (new_ring W1)
    go_wp2_with (refine store_ring rfl _ _ rfl W1.heap.size zero7 P rfl H7.out rfl rfl HA ?_; intro w2 HA2 hg2 hs2)
    have hb2 := (hb1.alloc hb1.size (.cells #[.int .i64 0, .int .i64 0, .int .i64 0, .int .i64 0, .int .i64 0, .int .i64 0, .int .i64 0] 49)).grown hg2 (by have := hb1.size; simp; omega) (by have := hb1.size; simp; omega)
    clear hg2 hs2 hb1
    go_ret2
    exact ⟨rfl, hb2⟩
end Go.Proofs.Ytgjgpnmldlnmgaa
