/- RingOf: the model and the program make the same ring of a list. -/
import Derived.Test.YtgjgpnmldlnmgaaOwn
namespace Go.Proofs.Ytgjgpnmldlnmgaa
open Go.ChangeShapes Go.WideShapes Go.ChangeAt Go.RowKit

def ofR (l : List Int) : List Int := if Tell l then cutL l 0 else []
theorem ofR_length (l : List Int) : (ofR l).length ≤ 7 := by
  unfold ofR
  split
  · rename_i h; rw [cutL_length]; exact h.2.1
  · simp

theorem ofS_any (A : Option Addr) (n c H : Nat) (l : List Int) (w : World) (h : Rd w H A n l) (hH : H ≤ w.heap.size) (hn : n ≤ 1048576) :
    Calls Try.prog 24 #[.slice A n c] w fun e w' => ∃ v, e = .returned (.tuple #[v, .bool (tell l)]) ∧ Own w' w.heap.size v (ofR l) ∧ Below w.heap.size w w' := by
  have he := fun W hW => Lib.hid (every_any A n c H l W hW hn)
  have HE := Lib.hid he
  have HL := Lib.hid h.len
  clear he
  by_cases ht : Tell l
  · have hR : ofR l = cutL l 0 := by rw [ofR, if_pos ht]
    have hc := Lib.hid (cutS_any A n c H l 0 w h hH (by have := ht.1; rw [HL.out] at this; omega) (by have := ht.2.1; rw [HL.out] at this; omega) ht.zero)
    rw [hR]
    rw [tell_yes ht] at HE ⊢
    clear hR ht
    generalize cutL l 0 = r at *
    go_enter Try.func24, Try.ntmps24
    go_wp2_with (go_at_call 59; refine ((HE.out _ h).out).mono ?_; rintro e w' ⟨rfl, rfl⟩)
    refine hc.out.mono ?_
    rintro e w1 ⟨v, rfl, ho, hb⟩
    have HO := Lib.hid ho
    have HB := Lib.hid hb
    clear ho hb
    go_wp2
    go_ret2
    exact ⟨_, rfl, HO.out, HB.out⟩
  · have hR : ofR l = [] := by rw [ofR, if_neg ht]
    rw [hR]
    rw [tell_no ht] at HE ⊢
    clear hR ht
    go_enter Try.func24, Try.ntmps24
    go_wp2_with (go_at_call 59; refine ((HE.out _ h).out).mono ?_; rintro e w' ⟨rfl, rfl⟩)
    refine (none_any w).mono ?_
    rintro e w1 ⟨v, rfl, ho, hb⟩
    have HO := Lib.hid ho
    have HB := Lib.hid hb
    clear ho hb
    go_wp2
    go_ret2
    exact ⟨_, rfl, HO.out, HB.out⟩

theorem readP_length (l : List Int) : (readP l).length = 7 := by
  unfold readP
  split
  · rename_i h; exact padR_length l h.2.1
  · rfl

set_option maxHeartbeats 1000000 in
theorem ofI_any (A : Option Addr) (n c H : Nat) (l : List Int) (w : World) (h : Rd w H A n l) (hH : H ≤ w.heap.size) (hn : n ≤ 1048576) (hnc : n ≤ c) (hcm : c ≤ 9223372036854775807) :
    Calls Try.prog 20 #[.slice A n c] w fun e w' => ∃ v, e = .returned (.tuple #[v, .bool (tell l)]) ∧ Own w' w.heap.size v (ofR l) ∧ Below w.heap.size w w' := by
  have hread := Lib.hid (readT_any A n c H l w h hH hn hnc hcm)
  by_cases ht : Tell l
  · have hR : Hid (ofR l = cutL l 0) := by rw [Hid, ofR, if_pos ht]
    have hP : Hid (readP l = padR l) := by rw [Hid, readP, if_pos ht]
    have H7 := Lib.hid (padR_length l ht.2.1)
    have hcut := fun W => Lib.hid (cut_any l 0 W (by have := ht.1; omega) ht.2.1 ht.pos ht.zero)
    have hlist := fun W => Lib.hid (list_any (cutL l 0) W (by have := ht.1; rw [cutL_length]; omega) (by rw [cutL_length]; exact ht.2.1) (fun x hx => by
      obtain ⟨i, _, rfl⟩ := List.mem_map.1 hx
      exact ht.pos _ (getD_mem l _ (Nat.mod_lt _ (by have := ht.1; omega)))))
    have HC := Lib.hid hcut
    have HLI := Lib.hid hlist
    rw [hR.out]
    rw [tell_yes ht] at hread ⊢
    rw [hP.out] at hread
    clear hcut hlist ht hR hP
    unfold agp at HC HLI
    generalize padR l = P at *
    generalize cutL l 0 = C at *
    generalize padR C = Q at *
    go_enter Try.func20, Try.ntmps20
    go_wp2_with fail
    refine hread.out.mono ?_
    rintro e W1 ⟨rfl, hb1⟩
    have HA := Lib.hid (new_ring W1)
    go_wp2_with (first
      | (refine store_ring rfl _ _ rfl W1.heap.size zero7 P rfl H7.out rfl rfl HA ?_; intro w2 HA2 hg2 hs2)
      | (refine load_ring rfl _ rfl W1.heap.size P H7.out rfl HA2 ?_))
    have hb2 := Lib.hid ((hb1.alloc hb1.size (.cells #[.int .i64 0, .int .i64 0, .int .i64 0, .int .i64 0, .int .i64 0, .int .i64 0, .int .i64 0] 49)).grown hg2 (by have := hb1.size; simp; omega) (by have := hb1.size; simp; omega))
    clear hg2 hs2 hb1
    refine ((HC.out _).out).mono ?_
    rintro e w3 ⟨rfl, hb3⟩
    have hb4 := Lib.hid (hb2.out.trans (hb3.mono hb2.out.size))
    clear hb3
    go_wp2_with fail
    refine ((HLI.out _).out).mono ?_
    rintro e w5 ⟨v, rfl, ho, hb5⟩
    have HO := Lib.hid (own_less ho hb4.out.size)
    have hb6 := Lib.hid (hb4.out.trans (hb5.mono hb4.out.size))
    clear ho hb5
    go_wp2
    go_ret2
    exact ⟨_, rfl, HO.out, hb6.out⟩
  · have hR : ofR l = [] := by rw [ofR, if_neg ht]
    have H7 := Lib.hid (readP_length l)
    rw [hR]
    rw [tell_no ht] at hread ⊢
    clear hR ht
    generalize readP l = P at *
    go_enter Try.func20, Try.ntmps20
    go_wp2_with fail
    refine hread.out.mono ?_
    rintro e W1 ⟨rfl, hb1⟩
    have HA := Lib.hid (new_ring W1)
    go_wp2_with (refine store_ring rfl _ _ rfl W1.heap.size zero7 P rfl H7.out rfl rfl HA ?_; intro w2 HA2 hg2 hs2)
    have hb2 := (hb1.alloc hb1.size (.cells #[.int .i64 0, .int .i64 0, .int .i64 0, .int .i64 0, .int .i64 0, .int .i64 0, .int .i64 0] 49)).grown hg2 (by have := hb1.size; simp; omega) (by have := hb1.size; simp; omega)
    clear hg2 hs2 hb1
    go_ret2
    exact ⟨_, rfl, World.ownsRow_nil _ _ _ _, hb2⟩
end Go.Proofs.Ytgjgpnmldlnmgaa
