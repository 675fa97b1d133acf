/- RingDrop of the model and of the program. -/
import Derived.Test.YtgjgpnmldlnmgaaDrop
import Derived.Test.YtgjgpnmldlnmgaaOwn
namespace Go.Proofs.Ytgjgpnmldlnmgaa
open Go.ChangeShapes Go.WideShapes Go.ChangeAt Go.RowKit

/-- A ring of four points at least. -/
def dropB (l : List Int) : Bool := ringB l && decide (l.length ≠ 3)
def dropR (l : List Int) : List Int := if dropB l then dropL l else []
theorem dropB_yes {l : List Int} (h : dropB l = true) : Ring l ∧ l.length ≠ 3 := by
  simpa [dropB, ringB] using h
theorem dropR_length (l : List Int) : (dropR l).length ≤ 7 := by
  unfold dropR
  split
  · rename_i h; rw [dropL_length l (dropB_yes h).1.1]; have := (dropB_yes h).1.1.2.1; omega
  · simp

/-- What is kept of the first k. -/
def keepK (l : List Int) (g : Int) (k : Nat) : List Int := (l.take k).filter fun x => x != g
theorem keepK_yes (l : List Int) (g : Int) (k : Nat) (hk : k < l.length) (h : l.getD k 0 ≠ g) : ints (keepK l g k) ++ [.int .i64 (l.getD k 0)] = ints (keepK l g (k + 1)) := by
  have e : keepK l g (k + 1) = keepK l g k ++ [l.getD k 0] := by
    unfold keepK
    rw [List.take_succ_eq_append_getElem hk, List.filter_append]
    simp [List.getD, hk] at h ⊢
    exact h
  rw [e, ints, ints, List.map_append]
  rfl
theorem keepK_no (l : List Int) (g : Int) (k : Nat) (hk : k < l.length) (h : l.getD k 0 = g) : keepK l g (k + 1) = keepK l g k := by
  unfold keepK
  rw [List.take_succ_eq_append_getElem hk, List.filter_append]
  simp [List.getD, hk] at h ⊢
  exact h
theorem keepK_le (l : List Int) (g : Int) (k : Nat) : (keepK l g k).length ≤ k := by
  unfold keepK
  exact Nat.le_trans (List.length_filter_le _ _) (List.length_take_le _ _)
theorem keepK_full (l : List Int) : keepK l ((l.length : Int) - 1) l.length = dropL l := by unfold keepK dropL; rw [List.take_length]

set_option maxHeartbeats 1000000 in
theorem drS_any (A : Option Addr) (n c H : Nat) (l : List Int) (w : World) (h : Rd w H A n l) (hH : H ≤ w.heap.size) (hn : n ≤ 1048576) :
    Calls Try.prog 53 #[.slice A n c] w fun e w' => ∃ v, e = .returned (.tuple #[v, .bool (dropB l)]) ∧ Own w' w.heap.size v (dropR l) ∧ Below w.heap.size w w' := by
  obtain ⟨i0, hi, hz0, hz1, hz2⟩ := info_parts int_info
  have he := fun W hW => Lib.hid (ringS_any A n c H l W hW hn)
  have HE := Lib.hid he
  have HL := Lib.hid h.len
  clear he
  unfold dropR
  cases hd : dropB l
  · rw [if_neg (by simp)]
    by_cases hr : Ring l
    · have h3 : n = 3 := by
        rw [← HL.out]
        have := hd
        simp only [dropB, ring_yes hr, Bool.true_and, decide_eq_false_iff_not] at this
        omega
      rw [ring_yes hr] at HE
      clear hd hr
      subst h3
      go_enter Try.func53, Try.ntmps53
      go_wp2_with (go_at_call 19; refine ((HE.out _ h).out).mono ?_; rintro e w' ⟨rfl, rfl⟩)
      refine (none_any w).mono ?_
      rintro e w1 ⟨v, rfl, ho, hb⟩
      have HO := Lib.hid ho
      have HB := Lib.hid hb
      clear ho hb
      go_wp2
      go_ret2
      exact ⟨_, rfl, HO.out, HB.out⟩
    · rw [ring_no hr] at HE
      clear hd hr
      go_enter Try.func53, Try.ntmps53
      go_wp2_with (go_at_call 19; refine ((HE.out _ h).out).mono ?_; rintro e w' ⟨rfl, rfl⟩)
      refine (none_any w).mono ?_
      rintro e w1 ⟨v, rfl, ho, hb⟩
      have HO := Lib.hid ho
      have HB := Lib.hid hb
      clear ho hb
      go_wp2
      go_ret2
      exact ⟨_, rfl, HO.out, HB.out⟩
  · rw [if_pos rfl]
    obtain ⟨hr, hn3⟩ := dropB_yes hd
    rw [HL.out] at hn3
    have h3 := hr.1.1
    have h7 := hr.1.2.1
    rw [HL.out] at h3 h7
    rw [ring_yes hr] at HE
    have hbne : ((n : Int) == 3) = false := by simp; omega
    have hful := keepK_full l
    rw [HL.out] at hful
    rw [← hful]
    have ho0 := own_empty w _ (Nat.le_refl _)
    have hb0 := (Below.refl w.heap.size w).alloc (Nat.le_refl _) (.cells #[] 3)
    have hr0 := h.alloc hH (.cells #[] 3)
    clear hd hr hful
    go_enter Try.func53, Try.ntmps53
    go_wp2_with (go_at_call 19; refine ((HE.out _ h).out).mono ?_; rintro e w' ⟨rfl, rfl⟩)
    obtain ⟨W0, h0⟩ : ∃ W, W = w.alloc (.cells #[] 3) := ⟨_, rfl⟩
    rw [← h0] at ho0 hb0 hr0 ⊢
    clear h0 hbne h
    go_loopw [4, 5] (fun v i wr => ∃ k : Nat, k ≤ n ∧ i = .int .i64 k ∧ (∃ m : Nat, m ≤ k ∧ Hid (m = (keepK l ((n : Int) - 1) k).length) ∧ Hid (wr.ownsRow w.heap.size 3 1 v m (ints (keepK l ((n : Int) - 1) k)))) ∧ Rd wr H A n l ∧ Below w.heap.size w wr) (fun _ i _ => n - (intOf i).toNat)
    case atStart => exact ⟨0, Nat.zero_le _, rfl, ⟨0, Nat.le_refl _, by simp [keepK, Hid], by simpa [Own, Hid, ints, keepK] using ho0⟩, hr0, hb0⟩
    case round =>
      obtain ⟨k, hk, rfl, ⟨m, hmk, hme, hown⟩, hrd, hbl⟩ := hrel
      clear ho0 hb0 hr0 HE
      by_cases hlt : k < n
      · obtain ⟨b, o, rfl, hbH, hcs⟩ := hrd.at_ (by omega)
        have hc := hcs k hlt
        have hyes : Hid (l.getD k 0 ≠ (n : Int) - 1 → ints (keepK l ((n : Int) - 1) k) ++ [.int .i64 (l.getD k 0)] = ints (keepK l ((n : Int) - 1) (k + 1))) := fun hne => keepK_yes l _ k (by rw [HL.out]; exact hlt) hne
        have hno : Hid (l.getD k 0 = (n : Int) - 1 → keepK l ((n : Int) - 1) (k + 1) = keepK l ((n : Int) - 1) k) := fun he => keepK_no l _ k (by rw [HL.out]; exact hlt) he
        clear hcs
        generalize l.getD k 0 = x at hc hyes hno
        by_cases hx : x = (n : Int) - 1
        · have hb : (x != (n : Int) - 1) = false := by simp [hx]
          have T := Lib.hid (hno.out hx)
          clear hx hyes hno
          go_wp2
          go_roundw
          case rel => exact ⟨k + 1, by omega, by go_num, ⟨m, by omega, by rw [T.out]; exact hme, by rw [T.out]; exact hown⟩, hrd, hbl⟩
          case measure => simp [intOf]; omega
        · have hb : (x != (n : Int) - 1) = true := by simp [hx]
          have T := Lib.hid (hyes.out hx)
          clear hx hyes hno
          go_wp2_with (at_builtin; refine wpList_append_own _ rfl _ _ 23 rfl w.heap.size 3 i0 (.int .i64 0) 1 8 Try.underlying23 hi hz0 hz1 hz2 rfl (by decide) _ _ _ rfl (hown.out.alloc _) ⟨wr.heap.size, 0, none⟩ 1 1 [.int .i64 x] rfl rfl (one_cell wr _ _) (by simp [Value.oneCell']) (by unfold maxLen; omega) (by omega) (by have := hbl.size; simp; omega) ?_)
          intro v' w1 hown' hgrow _
          rw [T.out] at hown'
          have HO := Lib.hid hown'
          have HM : Hid (m + 1 = (keepK l ((n : Int) - 1) (k + 1)).length) := by
            have := congrArg List.length T.out
            simp at this
            rw [Hid, ← this, hme.out]
          have hb1 := own_below hown.out hbl hbl.size hgrow
          have hr1 := (hrd.alloc (Nat.le_trans hH hbl.size) (.cells #[.int .i64 x] 3)).below ((Below.refl H _).grown hgrow (by have := hbl.size; simp; omega) (fun q hq => Nat.le_trans hH (hown.out.lt q hq).1))
          clear hown' hgrow
          go_wp2
          go_roundw
          case rel => exact ⟨k + 1, by omega, by go_num, ⟨m + 1, by omega, HM, HO⟩, hr1, hb1⟩
          case measure => simp [intOf]; omega
      · obtain rfl : k = n := by omega
        go_wp2
        go_ret2
        refine ⟨_, rfl, ?_, hbl⟩
        unfold Own
        rw [← hme.out]
        exact hown.out

set_option maxHeartbeats 1000000 in
theorem drI_any (A : Option Addr) (n c H : Nat) (l : List Int) (w : World) (h : Rd w H A n l) (hH : H ≤ w.heap.size) (hn : n ≤ 1048576) (hnc : n ≤ c) (hcm : c ≤ 9223372036854775807) :
    Calls Try.prog 52 #[.slice A n c] w fun e w' => ∃ v, e = .returned (.tuple #[v, .bool (dropB l)]) ∧ Own w' w.heap.size v (dropR l) ∧ Below w.heap.size w w' := by
  have hread := Lib.hid (readR_any A n c H l w h hH hn hnc hcm)
  have H7 := Lib.hid (ringP_length l)
  have HL := Lib.hid h.len
  unfold dropR
  by_cases hr : Ring l
  · have hP : Hid (ringP l = padR l) := by rw [Hid, ringP, if_pos hr]
    have h3 := hr.1.1
    have h7 := hr.1.2.1
    rw [HL.out] at h3 h7
    rw [ring_yes hr] at hread
    rw [hP.out] at hread H7
    have hs := fun W => Lib.hid (sizeIn_any ((n : Int) - 1) W)
    have HS := Lib.hid hs
    clear hs
    cases hd : dropB l
    · rw [if_neg (by simp)]
      have hn3 : n = 3 := by
        rw [← HL.out]
        have := hd
        simp only [dropB, ring_yes hr, Bool.true_and, decide_eq_false_iff_not] at this
        omega
      clear hd hr hP h3 h7
      subst hn3
      generalize padR l = P at *
      go_enter Try.func52, Try.ntmps52
      go_wp2_with fail
      refine hread.out.mono ?_
      rintro e W1 ⟨rfl, hb1⟩
      have HA := Lib.hid (new_ring W1)
      go_wp2_with (first
        | (refine store_ring rfl _ _ rfl W1.heap.size zero7 P rfl H7.out rfl rfl HA ?_; intro w2 HA2 hg2 hs2)
        | (go_at_call 82; refine (sizeIn_any _ _).mono ?_; rintro e w' ⟨rfl, rfl⟩))
      have hb2 := (hb1.alloc hb1.size (.cells #[.int .i64 0, .int .i64 0, .int .i64 0, .int .i64 0, .int .i64 0, .int .i64 0, .int .i64 0] 49)).grown hg2 (by have := hb1.size; simp; omega) (by have := hb1.size; simp; omega)
      clear hg2 hs2 hb1
      go_ret2
      exact ⟨_, rfl, World.ownsRow_nil _ _ _ _, hb2⟩
    · rw [if_pos rfl]
      have hn3 := (dropB_yes hd).2
      rw [HL.out] at hn3
      have hb : (decide ((3 : Int) ≤ (n : Int) - 1) && decide ((n : Int) - 1 ≤ 7)) = true := by simp; omega
      have hcut := fun W => Lib.hid (drop_any l W hr.1)
      have hlist := fun W => Lib.hid (list_any (dropL l) W (by rw [dropL_length l hr.1, HL.out]; omega) (by rw [dropL_length l hr.1, HL.out]; omega) (dropL_pos l hr.1))
      have HC := Lib.hid hcut
      have HLI := Lib.hid hlist
      clear hcut hlist hr hP hd h3 h7 hn3
      unfold agp at HC HLI
      generalize padR l = P at *
      generalize dropL l = C at *
      generalize padR C = Q at *
      go_enter Try.func52, Try.ntmps52
      go_wp2_with fail
      refine hread.out.mono ?_
      rintro e W1 ⟨rfl, hb1⟩
      have HA := Lib.hid (new_ring W1)
      go_wp2_with (first
        | (refine store_ring rfl _ _ rfl W1.heap.size zero7 P rfl H7.out rfl rfl HA ?_; intro w2 HA2 hg2 hs2)
        | (go_at_call 82; refine (sizeIn_any _ _).mono ?_; rintro e w' ⟨rfl, rfl⟩)
        | (refine load_ring rfl _ rfl W1.heap.size P H7.out rfl HA2 ?_))
      have hb2 := Lib.hid ((hb1.alloc hb1.size (.cells #[.int .i64 0, .int .i64 0, .int .i64 0, .int .i64 0, .int .i64 0, .int .i64 0, .int .i64 0] 49)).grown hg2 (by have := hb1.size; simp; omega) (by have := hb1.size; simp; omega))
      clear hg2 hs2 hb1 hb
      refine ((HC.out _).out).mono ?_
      rintro e w3 ⟨rfl, hb3⟩
      have hb4 := Lib.hid (hb2.out.trans (hb3.mono hb2.out.size))
      clear hb3
      go_wp2_with fail
      refine ((HLI.out _).out).mono ?_
      rintro e w5 ⟨v, rfl, ho, hb5⟩
      have HO := Lib.hid (own_less ho hb4.out.size)
      have hb6 := Lib.hid (hb4.out.trans (hb5.mono hb4.out.size))
      clear ho hb5
      go_wp2
      go_ret2
      exact ⟨_, rfl, HO.out, hb6.out⟩
  · have ht : dropB l = false := by rw [dropB, ring_no hr, Bool.false_and]
    rw [ht, if_neg (by simp)]
    rw [ring_no hr] at hread
    clear hr ht
    generalize ringP l = P at *
    go_enter Try.func52, Try.ntmps52
    go_wp2_with fail
    refine hread.out.mono ?_
    rintro e W1 ⟨rfl, hb1⟩
    have HA := Lib.hid (new_ring W1)
    go_wp2_with (refine store_ring rfl _ _ rfl W1.heap.size zero7 P rfl H7.out rfl rfl HA ?_; intro w2 HA2 hg2 hs2)
    have hb2 := (hb1.alloc hb1.size (.cells #[.int .i64 0, .int .i64 0, .int .i64 0, .int .i64 0, .int .i64 0, .int .i64 0, .int .i64 0] 49)).grown hg2 (by have := hb1.size; simp; omega) (by have := hb1.size; simp; omega)
    clear hg2 hs2 hb1
    go_ret2
    exact ⟨_, rfl, World.ownsRow_nil _ _ _ _, hb2⟩
end Go.Proofs.Ytgjgpnmldlnmgaa
