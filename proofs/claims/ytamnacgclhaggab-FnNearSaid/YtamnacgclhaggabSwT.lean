/- SwapAt of the model and of the program. -/
import Derived.Test.YtamnacgclhaggabSwA
namespace Go.Proofs.Ytamnacgclhaggab
open Go.ChangeShapes Go.WideShapes Go.ChangeAt Go.RowKit

def swR (l : List Int) (x : Int) : List Int := if hasB l x then swapL l x else []
theorem swR_length (l : List Int) (x : Int) : (swR l x).length ≤ 7 := by
  unfold swR
  split
  · rename_i h; rw [swapL_length]; exact (hasB_yes h).1.1.2.1
  · simp
theorem swS_any (A : Option Addr) (n c H : Nat) (l : List Int) (x : Int) (w : World) (h : Rd w H A n l) (hH : H ≤ w.heap.size) (hn : n ≤ 1048576) :
    Calls Try.prog 34 #[.slice A n c, .int .i64 x] w fun e w' => ∃ v, e = .returned (.tuple #[v, .bool (hasB l x)]) ∧ Own w' w.heap.size v (swR l x) ∧ Below w.heap.size w w' := by
  have he := fun W hW => Lib.hid (hasS_any A n c H l x W hW hn)
  have HE := Lib.hid he
  have HL := Lib.hid h.len
  clear he
  cases ht : hasB l x
  · have hR : swR l x = [] := by rw [swR, if_neg (by simp [ht])]
    rw [hR]
    rw [ht] at HE
    clear hR ht
    go_enter Try.func34, Try.ntmps34
    go_wp2_with (go_at_call 80; refine ((HE.out _ h).out).mono ?_; rintro e w' ⟨rfl, rfl⟩)
    refine (none_any w).mono ?_
    rintro e w1 ⟨v, rfl, ho, hb⟩
    have HO := Lib.hid ho
    have HB := Lib.hid hb
    clear ho hb
    go_wp2
    go_ret2
    exact ⟨_, rfl, HO.out, HB.out⟩
  · have hR : swR l x = swapL l x := by rw [swR, if_pos ht]
    have hy := hasB_yes ht
    have hc := Lib.hid (l5At_any A n c H l x w h hH hy.1.1 hy.2.2.2)
    rw [hR]
    rw [ht] at HE
    clear hR ht hy
    generalize swapL l x = r at *
    go_enter Try.func34, Try.ntmps34
    go_wp2_with (go_at_call 80; refine ((HE.out _ h).out).mono ?_; rintro e w' ⟨rfl, rfl⟩)
    refine hc.out.mono ?_
    rintro e w1 ⟨v, rfl, ho, hb⟩
    have HO := Lib.hid ho
    have HB := Lib.hid hb
    clear ho hb
    go_wp2
    go_ret2
    exact ⟨_, rfl, HO.out, HB.out⟩

set_option maxHeartbeats 1000000 in
theorem swI_any (A : Option Addr) (n c H : Nat) (l : List Int) (x : Int) (w : World) (h : Rd w H A n l) (hH : H ≤ w.heap.size) (hn : n ≤ 1048576) (hnc : n ≤ c) (hcm : c ≤ 9223372036854775807) :
    Calls Try.prog 33 #[.slice A n c, .int .i64 x] w fun e w' => ∃ v, e = .returned (.tuple #[v, .bool (hasB l x)]) ∧ Own w' w.heap.size v (swR l x) ∧ Below w.heap.size w w' := by
  have hread := Lib.hid (readR_any A n c H l w h hH hn hnc hcm)
  by_cases hr : Ring l
  · have hl7 := hr.1.2.1
    obtain ⟨a0, a1, a2, a3, a4, a5, a6, hP⟩ := seven (padR_length l hl7)
    have hrp : ringP l = [a0, a1, a2, a3, a4, a5, a6] := by rw [ringP, if_pos hr, hP]
    have hhas := fun W => Lib.hid (has_any l x W hl7 hr.1.pos)
    have hin : hasB l x = decide (0 ≤ x ∧ x < l.length) := by rw [hasB, ring_yes hr, Bool.true_and]
    rw [← hin] at hhas
    unfold agp at hhas
    rw [hP] at hhas
    rw [hrp, ring_yes hr] at hread
    simp only [ints, List.map_cons, List.map_nil] at hhas hread
    have HH := Lib.hid hhas
    clear hhas hin hrp
    cases ht : hasB l x
    · have hR : swR l x = [] := by rw [swR, if_neg (by simp [ht])]
      rw [hR]
      rw [ht] at HH
      clear hR ht hr hP hl7
      go_enter Try.func33, Try.ntmps33
      go_wp2_with fail
      refine hread.out.mono ?_
      rintro e W1 ⟨rfl, hb1⟩
      have HA := Lib.hid (new_ring W1)
      go_wp2_with (refine store_ring rfl _ _ rfl W1.heap.size zero7 [a0, a1, a2, a3, a4, a5, a6] rfl rfl rfl rfl HA ?_; intro w2 HA2 hg2 hs2; obtain ⟨c0, c1, c2, c3, c4, c5, c6⟩ := cells7 HA2.out; clear hs2)
      have hb2 := Lib.hid ((hb1.alloc hb1.size (.cells #[.int .i64 0, .int .i64 0, .int .i64 0, .int .i64 0, .int .i64 0, .int .i64 0, .int .i64 0] 50)).grown hg2 (by have := hb1.size; simp; omega) (by have := hb1.size; simp; omega))
      clear hg2 hb1
      refine ((HH.out _).out).mono ?_
      rintro e w3 ⟨rfl, hb3⟩
      have hb4 := Lib.hid (hb2.out.trans (hb3.mono hb2.out.size))
      clear hb3 c0 c1 c2 c3 c4 c5 c6
      go_wp2
      go_ret2
      exact ⟨_, rfl, World.ownsRow_nil _ _ _ _, hb4.out⟩
    · have hy := hasB_yes ht
      have hR : Hid (swR l x = swapL l x) := by rw [Hid, swR, if_pos ht]
      have hcut := fun W => Lib.hid (swapped_any l x W hr.1 hy.2.2.2)
      have hlist := fun W => Lib.hid (list_any (swapL l x) W (by have := hr.1.1; rw [swapL_length]; omega) (by rw [swapL_length]; exact hl7) (swapL_ring hr.1 hy.2.2.2).1.pos)
      rw [hR.out]
      rw [ht] at HH
      unfold agp at hcut hlist
      rw [hP] at hcut
      have HC := Lib.hid hcut
      have HLI := Lib.hid hlist
      clear hR ht hr hP hl7 hcut hlist hy
      generalize swapL l x = C at *
      generalize padR C = Q at *
      go_enter Try.func33, Try.ntmps33
      go_wp2_with fail
      refine hread.out.mono ?_
      rintro e W1 ⟨rfl, hb1⟩
      have HA := Lib.hid (new_ring W1)
      go_wp2_with (refine store_ring rfl _ _ rfl W1.heap.size zero7 [a0, a1, a2, a3, a4, a5, a6] rfl rfl rfl rfl HA ?_; intro w2 HA2 hg2 hs2; obtain ⟨c0, c1, c2, c3, c4, c5, c6⟩ := cells7 HA2.out; clear hs2)
      have hb2 := Lib.hid ((hb1.alloc hb1.size (.cells #[.int .i64 0, .int .i64 0, .int .i64 0, .int .i64 0, .int .i64 0, .int .i64 0, .int .i64 0] 50)).grown hg2 (by have := hb1.size; simp; omega) (by have := hb1.size; simp; omega))
      clear hg2 hb1
      refine ((HH.out _).out).mono ?_
      rintro e w3 ⟨rfl, hb3⟩
      have hb4 := Lib.hid (hb2.out.trans (hb3.mono hb2.out.size))
      have HA3 := Lib.hid (HA2.out.below hb3 HA2.out.lt)
      clear hb3 c0 c1 c2 c3 c4 c5 c6
      go_wp2_with (refine load_ring rfl _ rfl W1.heap.size [a0, a1, a2, a3, a4, a5, a6] rfl rfl HA3 ?_)
      refine ((HC.out _).out).mono ?_
      rintro e w4 ⟨rfl, hb5⟩
      have hb6 := Lib.hid (hb4.out.trans (hb5.mono hb4.out.size))
      clear hb5
      go_wp2_with fail
      refine ((HLI.out _).out).mono ?_
      rintro e w5 ⟨v, rfl, ho, hb7⟩
      have HO := Lib.hid (own_less ho hb6.out.size)
      have hb8 := Lib.hid (hb6.out.trans (hb7.mono hb6.out.size))
      clear ho hb7
      go_wp2
      go_ret2
      exact ⟨_, rfl, HO.out, hb8.out⟩
  · have ht : hasB l x = false := by rw [hasB, ring_no hr, Bool.false_and]
    have hR : swR l x = [] := by rw [swR, if_neg (by simp [ht])]
    have H7 := Lib.hid (ringP_length l)
    rw [hR, ht]
    rw [ring_no hr] at hread
    clear hR hr ht
    generalize ringP l = P at *
    go_enter Try.func33, Try.ntmps33
    go_wp2_with fail
    refine hread.out.mono ?_
    rintro e W1 ⟨rfl, hb1⟩
    have HA := Lib.hid (new_ring W1)
    go_wp2_with (refine store_ring rfl _ _ rfl W1.heap.size zero7 P rfl H7.out rfl rfl HA ?_; intro w2 HA2 hg2 hs2)
    have hb2 := (hb1.alloc hb1.size (.cells #[.int .i64 0, .int .i64 0, .int .i64 0, .int .i64 0, .int .i64 0, .int .i64 0, .int .i64 0] 50)).grown hg2 (by have := hb1.size; simp; omega) (by have := hb1.size; simp; omega)
    clear hg2 hs2 hb1
    go_ret2
    exact ⟨_, rfl, World.ownsRow_nil _ _ _ _, hb2⟩
end Go.Proofs.Ytamnacgclhaggab
