/- RingBack of the model and of the program: each list's ring gone round the other way. -/
import Derived.Test.YtgojojoanhilnaaDoorBack
import Derived.Test.YtgojojoanhilnaaDoorMA
namespace Go.Proofs.YtgojojoanhilnaaDoor
open Go.ChangeShapes Go.WideShapes Go.ChangeAt Go.RowKit

def backR (l : List Int) : List Int := if Ring l then backL l else []
theorem backR_length (l : List Int) : (backR l).length ≤ 7 := by
  unfold backR
  split
  · rename_i h; rw [backL_length]; exact h.1.2.1
  · simp
theorem backL_pos (l : List Int) (h : Tell l) : ∀ x ∈ backL l, 0 ≤ x := fun x hx => by
  obtain ⟨i, _, rfl⟩ := List.mem_map.1 hx
  exact h.pos _ (getD_mem l _ (Nat.mod_lt _ (by have := h.1; omega)))

set_option maxHeartbeats 1000000 in
theorem bkI_any (A : Option Addr) (n c H : Nat) (l : List Int) (w : World) (h : Rd w H A n l) (hH : H ≤ w.heap.size) (hn : n ≤ 1048576) (hnc : n ≤ c) (hcm : c ≤ 9223372036854775807) :
    Calls Tryd.prog 14 #[.slice A n c] w fun e w' => ∃ v, e = .returned (.tuple #[v, .bool (ringB l)]) ∧ Own w' w.heap.size v (backR l) ∧ Below w.heap.size w w' := by
  have hread := Lib.hid (readR_any A n c H l w h hH hn hnc hcm)
  have H7 := Lib.hid (ringP_length l)
  by_cases ht : Ring l
  · have hR : Hid (backR l = backL l) := by rw [Hid, backR, if_pos ht]
    have hP : Hid (ringP l = padR l) := by rw [Hid, ringP, if_pos ht]
    have hcut := fun W => Lib.hid (back_any l W (by have := ht.1.1; omega) ht.1.2.1 ht.1.pos)
    have hlist := fun W => Lib.hid (list_any (backL l) W (by have := ht.1.1; rw [backL_length]; omega) (by rw [backL_length]; exact ht.1.2.1) (backL_pos l ht.1))
    have HC := Lib.hid hcut
    have HLI := Lib.hid hlist
    rw [hR.out]
    rw [ring_yes ht] at hread ⊢
    rw [hP.out] at hread H7
    clear hcut hlist ht hR hP
    unfold agp at HC HLI
    generalize padR l = P at *
    generalize backL l = C at *
    generalize padR C = Q at *
    go_enter Tryd.func14, Tryd.ntmps14
    go_wp2_with fail
    refine hread.out.mono ?_
    rintro e W1 ⟨rfl, hb1⟩
    have HA := Lib.hid (new_ring W1)
    go_wp2_with (first
      | (refine store_ring rfl _ _ rfl W1.heap.size zero7 P rfl H7.out rfl rfl HA ?_; intro w2 HA2 hg2 hs2)
      | (refine load_ring rfl _ rfl W1.heap.size P H7.out rfl HA2 ?_))
    have hb2 := Lib.hid ((hb1.alloc hb1.size (.cells #[.int .i64 0, .int .i64 0, .int .i64 0, .int .i64 0, .int .i64 0, .int .i64 0, .int .i64 0] 56)).grown hg2 (by have := hb1.size; simp; omega) (by have := hb1.size; simp; omega))
    clear hg2 hs2 hb1
    refine ((HC.out _).out).mono ?_
    rintro e w3 ⟨rfl, hb3⟩
    have hb4 := Lib.hid (hb2.out.trans (hb3.mono hb2.out.size))
    clear hb3
    go_wp2_with fail
    refine ((HLI.out _).out).mono ?_
    rintro e w5 ⟨v, rfl, ho, hb5⟩
    have HO := Lib.hid (own_less ho hb4.out.size)
    have hb6 := Lib.hid (hb4.out.trans (hb5.mono hb4.out.size))
    clear ho hb5
    go_wp2
    go_ret2
    exact ⟨_, rfl, HO.out, hb6.out⟩
  · have hR : backR l = [] := by rw [backR, if_neg ht]
    rw [hR]
    rw [ring_no ht] at hread ⊢
    clear hR ht
    generalize ringP l = P at *
    go_enter Tryd.func14, Tryd.ntmps14
    go_wp2_with fail
    refine hread.out.mono ?_
    rintro e W1 ⟨rfl, hb1⟩
    have HA := Lib.hid (new_ring W1)
    go_wp2_with (refine store_ring rfl _ _ rfl W1.heap.size zero7 P rfl H7.out rfl rfl HA ?_; intro w2 HA2 hg2 hs2)
    have hb2 := (hb1.alloc hb1.size (.cells #[.int .i64 0, .int .i64 0, .int .i64 0, .int .i64 0, .int .i64 0, .int .i64 0, .int .i64 0] 56)).grown hg2 (by have := hb1.size; simp; omega) (by have := hb1.size; simp; omega)
    clear hg2 hs2 hb1
    go_ret2
    exact ⟨_, rfl, World.ownsRow_nil _ _ _ _, hb2⟩
end Go.Proofs.YtgojojoanhilnaaDoor
