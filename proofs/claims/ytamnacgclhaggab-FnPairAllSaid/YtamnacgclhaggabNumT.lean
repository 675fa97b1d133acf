/- RingNumber of the model and of the program. -/
import Derived.Test.YtamnacgclhaggabMA
import Derived.Test.YtamnacgclhaggabPR
namespace Go.Proofs.Ytamnacgclhaggab
open Go.ChangeShapes Go.WideShapes Go.ChangeAt Go.RowKit

def numR (l : List Int) : Int := if Ring l then numP l l.length else 0

set_option maxHeartbeats 1000000 in
theorem nuI_any (A : Option Addr) (n c H : Nat) (l : List Int) (w : World) (h : Rd w H A n l) (hH : H ≤ w.heap.size) (hn : n ≤ 1048576) (hnc : n ≤ c) (hcm : c ≤ 9223372036854775807) :
    Calls Try.prog 17 #[.slice A n c] w fun e w' => e = .returned (.tuple #[.int .i64 (numR l), .bool (ringB l)]) ∧ Below w.heap.size w w' := by
  have hread := Lib.hid (readR_any A n c H l w h hH hn hnc hcm)
  have H7 := Lib.hid (ringP_length l)
  unfold numR
  by_cases ht : Ring l
  · have hP : Hid (ringP l = padR l) := by rw [Hid, ringP, if_pos ht]
    have hcut := fun W => Lib.hid (num_any l W (by have := ht.1.1; omega) ht.1.2.1 ht.1.pos)
    have HC := Lib.hid hcut
    rw [if_pos ht]
    rw [ring_yes ht] at hread ⊢
    rw [hP.out] at hread H7
    clear hcut ht hP
    unfold agp at HC
    generalize padR l = P at *
    generalize numP l l.length = r at *
    go_enter Try.func17, Try.ntmps17
    go_wp2_with fail
    refine hread.out.mono ?_
    rintro e W1 ⟨rfl, hb1⟩
    have HA := Lib.hid (new_ring W1)
    go_wp2_with (first
      | (refine store_ring rfl _ _ rfl W1.heap.size zero7 P rfl H7.out rfl rfl HA ?_; intro w2 HA2 hg2 hs2)
      | (refine load_ring rfl _ rfl W1.heap.size P H7.out rfl HA2 ?_))
    have hb2 := Lib.hid ((hb1.alloc hb1.size (.cells #[.int .i64 0, .int .i64 0, .int .i64 0, .int .i64 0, .int .i64 0, .int .i64 0, .int .i64 0] 50)).grown hg2 (by have := hb1.size; simp; omega) (by have := hb1.size; simp; omega))
    clear hg2 hs2 hb1
    refine ((HC.out _).out).mono ?_
    rintro e w3 ⟨rfl, hb3⟩
    have hb4 := Lib.hid (hb2.out.trans (hb3.mono hb2.out.size))
    clear hb3
    go_wp2
    go_ret2
    exact ⟨rfl, hb4.out⟩
  · rw [if_neg ht]
    rw [ring_no ht] at hread ⊢
    clear ht
    generalize ringP l = P at *
    go_enter Try.func17, Try.ntmps17
    go_wp2_with fail
    refine hread.out.mono ?_
    rintro e W1 ⟨rfl, hb1⟩
    have HA := Lib.hid (new_ring W1)
    go_wp2_with (refine store_ring rfl _ _ rfl W1.heap.size zero7 P rfl H7.out rfl rfl HA ?_; intro w2 HA2 hg2 hs2)
    have hb2 := (hb1.alloc hb1.size (.cells #[.int .i64 0, .int .i64 0, .int .i64 0, .int .i64 0, .int .i64 0, .int .i64 0, .int .i64 0] 50)).grown hg2 (by have := hb1.size; simp; omega) (by have := hb1.size; simp; omega)
    clear hg2 hs2 hb1
    go_ret2
    exact ⟨rfl, hb2⟩
end Go.Proofs.Ytamnacgclhaggab
