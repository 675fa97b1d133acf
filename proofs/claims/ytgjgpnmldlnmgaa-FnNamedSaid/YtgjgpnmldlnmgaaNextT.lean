/- RingNext and RingSteps of the model and of the program. -/
import Derived.Test.YtgjgpnmldlnmgaaNext
namespace Go.Proofs.Ytgjgpnmldlnmgaa
open Go.ChangeShapes Go.WideShapes Go.ChangeAt Go.RowKit

def nextR (l : List Int) (x : Int) : Int := if hasB l x then l.getD ((l.idxOf x + 1) % l.length) 0 else 0

set_option maxHeartbeats 1000000 in
theorem nxS_any (A : Option Addr) (n c H : Nat) (l : List Int) (x : Int) (w : World) (h : Rd w H A n l) (hH : H ≤ w.heap.size) (hn : n ≤ 1048576) :
    Calls Try.prog 33 #[.slice A n c, .int .i64 x] w fun e w' => e = .returned (.tuple #[.int .i64 (nextR l x), .bool (hasB l x)]) ∧ Below w.heap.size w w' := by
  have he := fun W hW => Lib.hid (hasS_any A n c H l x W hW hn)
  have HE := Lib.hid he
  have HL := Lib.hid h.len
  clear he
  cases ht : hasB l x
  · have hR : nextR l x = 0 := by rw [nextR, if_neg (by simp [ht])]
    rw [hR]
    rw [ht] at HE
    clear hR ht
    go_enter Try.func33, Try.ntmps33
    go_wp2_with (go_at_call 73; refine ((HE.out _ h).out).mono ?_; rintro e w' ⟨rfl, rfl⟩)
    go_ret2
    exact ⟨rfl, Below.refl _ _⟩
  · have hy := hasB_yes ht
    have h3 := hy.1.1.1
    have hR : nextR l x = (cutL l x).getD 1 0 := by rw [nextR, if_pos ht, cutL_get l x 1 (by omega)]
    have hc := Lib.hid (cutS_any A n c H l x w h hH (by rw [HL.out] at h3; omega) (by have := hy.1.1.2.1; rw [HL.out] at this; omega) hy.2.2.2)
    have hlen : 3 ≤ (cutL l x).length := by rw [cutL_length]; exact h3
    rw [hR]
    rw [ht] at HE
    clear hR ht hy h3
    generalize cutL l x = r at *
    obtain ⟨y, hy⟩ : ∃ y, y = r.getD 1 0 := ⟨_, rfl⟩
    rw [← hy]
    have HY := Lib.hid hy
    clear hy
    go_enter Try.func33, Try.ntmps33
    go_wp2_with (go_at_call 73; refine ((HE.out _ h).out).mono ?_; rintro e w' ⟨rfl, rfl⟩)
    refine hc.out.mono ?_
    rintro e w1 ⟨v, rfl, ho, hb⟩
    obtain ⟨A1, c1, rfl⟩ := ho.slice
    obtain ⟨b, o, rfl, _, hcs⟩ := ho.rd.2.at_ (by omega)
    have hc1 := hcs 1 (by omega)
    rw [← HY.out] at hc1
    have HB := Lib.hid hb
    clear ho hb hcs
    go_wp2
    go_ret2
    exact ⟨rfl, HB.out⟩

set_option maxHeartbeats 1000000 in
theorem nxI_any (A : Option Addr) (n c H : Nat) (l : List Int) (x : Int) (w : World) (h : Rd w H A n l) (hH : H ≤ w.heap.size) (hn : n ≤ 1048576) (hnc : n ≤ c) (hcm : c ≤ 9223372036854775807) :
    Calls Try.prog 31 #[.slice A n c, .int .i64 x] w fun e w' => e = .returned (.tuple #[.int .i64 (nextR l x), .bool (hasB l x)]) ∧ Below w.heap.size w w' := by
  have hread := Lib.hid (readR_any A n c H l w h hH hn hnc hcm)
  by_cases hr : Ring l
  · have hl7 := hr.1.2.1
    obtain ⟨a0, a1, a2, a3, a4, a5, a6, hP⟩ := seven (padR_length l hl7)
    have hrp : ringP l = [a0, a1, a2, a3, a4, a5, a6] := by rw [ringP, if_pos hr, hP]
    have hhas := fun W => Lib.hid (has_any l x W hl7 hr.1.pos)
    have hin : hasB l x = decide (0 ≤ x ∧ x < l.length) := by rw [hasB, ring_yes hr, Bool.true_and]
    rw [← hin] at hhas
    unfold agp at hhas
    rw [hP] at hhas
    rw [hrp, ring_yes hr] at hread
    simp only [ints, List.map_cons, List.map_nil] at hhas hread
    have HH := Lib.hid hhas
    clear hhas hin hrp
    cases ht : hasB l x
    · have hR : nextR l x = 0 := by rw [nextR, if_neg (by simp [ht])]
      rw [hR]
      rw [ht] at HH
      clear hR ht hr hP hl7
      go_enter Try.func31, Try.ntmps31
      go_wp2_with fail
      refine hread.out.mono ?_
      rintro e W1 ⟨rfl, hb1⟩
      have HA := Lib.hid (new_ring W1)
      go_wp2_with (refine store_ring rfl _ _ rfl W1.heap.size zero7 [a0, a1, a2, a3, a4, a5, a6] rfl rfl rfl rfl HA ?_; intro w2 HA2 hg2 hs2; obtain ⟨c0, c1, c2, c3, c4, c5, c6⟩ := cells7 HA2.out; clear hs2)
      have hb2 := Lib.hid ((hb1.alloc hb1.size (.cells #[.int .i64 0, .int .i64 0, .int .i64 0, .int .i64 0, .int .i64 0, .int .i64 0, .int .i64 0] 49)).grown hg2 (by have := hb1.size; simp; omega) (by have := hb1.size; simp; omega))
      clear hg2 hb1
      refine ((HH.out _).out).mono ?_
      rintro e w3 ⟨rfl, hb3⟩
      have hb4 := Lib.hid (hb2.out.trans (hb3.mono hb2.out.size))
      clear hb3 c0 c1 c2 c3 c4 c5 c6
      go_wp2
      go_ret2
      exact ⟨rfl, hb4.out⟩
    · have hy := hasB_yes ht
      have hR : Hid (nextR l x = l.getD ((l.idxOf x + 1) % l.length) 0) := by rw [Hid, nextR, if_pos ht]
      have hcut := fun W => Lib.hid (next_any l x W (by have := hr.1.1; omega) hl7 hr.1.pos hy.2.2.2)
      rw [← hR.out] at hcut
      rw [ht] at HH
      unfold agp at hcut
      rw [hP] at hcut
      have HC := Lib.hid hcut
      clear hR ht hr hP hl7 hcut hy
      generalize nextR l x = C at *
      go_enter Try.func31, Try.ntmps31
      go_wp2_with fail
      refine hread.out.mono ?_
      rintro e W1 ⟨rfl, hb1⟩
      have HA := Lib.hid (new_ring W1)
      go_wp2_with (refine store_ring rfl _ _ rfl W1.heap.size zero7 [a0, a1, a2, a3, a4, a5, a6] rfl rfl rfl rfl HA ?_; intro w2 HA2 hg2 hs2; obtain ⟨c0, c1, c2, c3, c4, c5, c6⟩ := cells7 HA2.out; clear hs2)
      have hb2 := Lib.hid ((hb1.alloc hb1.size (.cells #[.int .i64 0, .int .i64 0, .int .i64 0, .int .i64 0, .int .i64 0, .int .i64 0, .int .i64 0] 49)).grown hg2 (by have := hb1.size; simp; omega) (by have := hb1.size; simp; omega))
      clear hg2 hb1
      refine ((HH.out _).out).mono ?_
      rintro e w3 ⟨rfl, hb3⟩
      have hb4 := Lib.hid (hb2.out.trans (hb3.mono hb2.out.size))
      have HA3 := Lib.hid (HA2.out.below hb3 HA2.out.lt)
      clear hb3 c0 c1 c2 c3 c4 c5 c6
      go_wp2_with (refine load_ring rfl _ rfl W1.heap.size [a0, a1, a2, a3, a4, a5, a6] rfl rfl HA3 ?_)
      refine ((HC.out _).out).mono ?_
      rintro e w4 ⟨rfl, hb5⟩
      have hb6 := Lib.hid (hb4.out.trans (hb5.mono hb4.out.size))
      clear hb5
      go_wp2
      go_ret2
      exact ⟨rfl, hb6.out⟩
  · have ht : hasB l x = false := by rw [hasB, ring_no hr, Bool.false_and]
    have hR : nextR l x = 0 := by rw [nextR, if_neg (by simp [ht])]
    have H7 := Lib.hid (ringP_length l)
    rw [hR, ht]
    rw [ring_no hr] at hread
    clear hR hr ht
    generalize ringP l = P at *
    go_enter Try.func31, Try.ntmps31
    go_wp2_with fail
    refine hread.out.mono ?_
    rintro e W1 ⟨rfl, hb1⟩
    have HA := Lib.hid (new_ring W1)
    go_wp2_with (refine store_ring rfl _ _ rfl W1.heap.size zero7 P rfl H7.out rfl rfl HA ?_; intro w2 HA2 hg2 hs2)
    have hb2 := (hb1.alloc hb1.size (.cells #[.int .i64 0, .int .i64 0, .int .i64 0, .int .i64 0, .int .i64 0, .int .i64 0, .int .i64 0] 49)).grown hg2 (by have := hb1.size; simp; omega) (by have := hb1.size; simp; omega)
    clear hg2 hs2 hb1
    go_ret2
    exact ⟨rfl, hb2⟩
end Go.Proofs.Ytgjgpnmldlnmgaa
