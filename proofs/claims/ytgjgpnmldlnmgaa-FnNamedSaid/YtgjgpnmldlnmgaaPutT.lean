/- RingPut of the model and of the program. -/
import Derived.Test.YtgjgpnmldlnmgaaPut
import Derived.Test.YtgjgpnmldlnmgaaOwn
namespace Go.Proofs.Ytgjgpnmldlnmgaa
open Go.ChangeShapes Go.WideShapes Go.ChangeAt Go.RowKit

/-- A ring of less than seven points, and a point of it. -/
def putB (l : List Int) (x : Int) : Bool := hasB l x && decide (l.length ≠ 7)
def putR (l : List Int) (x : Int) : List Int := if putB l x then putL l x else []
theorem putB_yes {l : List Int} {x : Int} (h : putB l x = true) : hasB l x = true ∧ l.length ≠ 7 := by
  simpa [putB] using h
theorem putR_length (l : List Int) (x : Int) : (putR l x).length ≤ 7 := by
  unfold putR
  split
  · rename_i h
    have hy := hasB_yes (putB_yes h).1
    have := (putB_yes h).2
    have := hy.1.1.2.1
    rw [putL_length l x hy.2.2.2]; omega
  · simp

/-- How much of the new list is made of the first k. -/
def madeN (l : List Int) (x : Int) (k : Nat) : Nat := k + if l.idxOf x < k then 1 else 0

set_option maxHeartbeats 1000000 in
theorem ptS_any (A : Option Addr) (n c H : Nat) (l : List Int) (x : Int) (w : World) (h : Rd w H A n l) (hH : H ≤ w.heap.size) (hn : n ≤ 1048576) :
    Calls Try.prog 56 #[.slice A n c, .int .i64 x] w fun e w' => ∃ v, e = .returned (.tuple #[v, .bool (putB l x)]) ∧ Own w' w.heap.size v (putR l x) ∧ Below w.heap.size w w' := by
  obtain ⟨i0, hi, hz0, hz1, hz2⟩ := info_parts int_info
  have he := fun W hW => Lib.hid (hasS_any A n c H l x W hW hn)
  have HE := Lib.hid he
  have HL := Lib.hid h.len
  clear he
  unfold putR
  cases hd : putB l x
  · rw [if_neg (by simp)]
    cases hr : hasB l x
    · rw [hr] at HE
      clear hd hr
      go_enter Try.func56, Try.ntmps56
      go_wp2_with (go_at_call 73; refine ((HE.out _ h).out).mono ?_; rintro e w' ⟨rfl, rfl⟩)
      refine (none_any w).mono ?_
      rintro e w1 ⟨v, rfl, ho, hb⟩
      have HO := Lib.hid ho
      have HB := Lib.hid hb
      clear ho hb
      go_wp2
      go_ret2
      exact ⟨_, rfl, HO.out, HB.out⟩
    · have h7 : n = 7 := by
        rw [← HL.out]
        have := hd
        simp only [putB, hr, Bool.true_and, decide_eq_false_iff_not] at this
        omega
      rw [hr] at HE
      clear hd hr
      subst h7
      go_enter Try.func56, Try.ntmps56
      go_wp2_with (go_at_call 73; refine ((HE.out _ h).out).mono ?_; rintro e w' ⟨rfl, rfl⟩)
      refine (none_any w).mono ?_
      rintro e w1 ⟨v, rfl, ho, hb⟩
      have HO := Lib.hid ho
      have HB := Lib.hid hb
      clear ho hb
      go_wp2
      go_ret2
      exact ⟨_, rfl, HO.out, HB.out⟩
  · rw [if_pos rfl]
    obtain ⟨hr, hn7⟩ := putB_yes hd
    have hy := hasB_yes hr
    rw [HL.out] at hn7
    have h7 := hy.1.1.2.1
    rw [HL.out] at h7
    have hs := List.idxOf_lt_length_of_mem hy.2.2.2
    rw [HL.out] at hs
    have HLEN : Hid ((putL l x).length = n + 1) := by rw [Hid, putL_length l x hy.2.2.2, HL.out]
    have HLOW : Hid (∀ k, k < n → k ≤ l.idxOf x → (putL l x).getD k 0 = l.getD k 0) := fun k hk hks => putL_low l x k (by rw [HL.out]; exact hk) hks
    have HMID : Hid ((putL l x).getD (l.idxOf x + 1) 0 = n) := by rw [Hid, putL_mid l x hy.2.2.2, HL.out]
    have HHIGH : Hid (∀ k, k < n → l.idxOf x < k → (putL l x).getD (k + 1) 0 = l.getD k 0) := fun k hk hks => putL_high l x k hy.2.2.2 (by rw [HL.out]; exact hk) hks
    have HONLY : Hid (∀ k, k < n → (l.getD k 0 = x ↔ k = l.idxOf x)) := fun k hk =>
      ⟨fun he => at_only l x k hy.1.1.2.2.2 (by rw [HL.out]; exact hk) he, fun he => by rw [he]; exact at_idx l x hy.2.2.2⟩
    rw [hr] at HE
    have hbne : ((n : Int) == 7) = false := by simp; omega
    have ho0 := own_empty w _ (Nat.le_refl _)
    have hb0 := (Below.refl w.heap.size w).alloc (Nat.le_refl _) (.cells #[] 3)
    have hr0 := h.alloc hH (.cells #[] 3)
    clear hd hr hy
    generalize putL l x = C at *
    generalize l.idxOf x = s at *
    go_enter Try.func56, Try.ntmps56
    go_wp2_with (go_at_call 73; refine ((HE.out _ h).out).mono ?_; rintro e w' ⟨rfl, rfl⟩)
    obtain ⟨W0, h0⟩ : ∃ W, W = w.alloc (.cells #[] 3) := ⟨_, rfl⟩
    rw [← h0] at ho0 hb0 hr0 ⊢
    clear h0 hbne h
    go_loopw [6, 7] (fun v i wr => ∃ k m : Nat, k ≤ n ∧ i = .int .i64 k ∧ (m = k ∧ k ≤ s ∨ m = k + 1 ∧ s < k) ∧ Hid (wr.ownsRow w.heap.size 3 1 v m (ints (C.take m))) ∧ Rd wr H A n l ∧ Below w.heap.size w wr) (fun _ i _ => n - (intOf i).toNat)
    case atStart => exact ⟨0, 0, Nat.zero_le _, rfl, .inl ⟨rfl, Nat.zero_le _⟩, by simpa [Own, Hid, ints] using ho0, hr0, hb0⟩
    case round =>
      obtain ⟨k, m, hk, rfl, hm, hown, hrd, hbl⟩ := hrel
      clear ho0 hb0 hr0 HE
      by_cases hlt : k < n
      · obtain ⟨b, o, rfl, hbH, hcs⟩ := hrd.at_ (by omega)
        have hc := hcs k hlt
        have hget : Hid (C.getD m 0 = l.getD k 0) := by
          rcases hm with ⟨rfl, hks⟩ | ⟨rfl, hks⟩
          · exact HLOW.out m hlt hks
          · exact HHIGH.out k hlt hks
        have HON := Lib.hid (HONLY.out k hlt)
        have hsn := Lib.hid (take_snoc C m (by rw [HLEN.out]; omega))
        rw [hget.out] at hsn
        have hmn : m ≤ n := by omega
        clear hcs
        generalize hx : l.getD k 0 = y at *
        have HY := Lib.hid hx
        clear hx
        by_cases hks : k = s
        · have hb : (y == x) = true := by have := HON.out.2 hks; simp [this]
          have hms : m = k := by omega
          have hsn2 := Lib.hid (take_snoc C (m + 1) (by rw [HLEN.out]; omega))
          have hmid : C.getD (m + 1) 0 = n := by rw [hms, hks]; exact HMID.out
          rw [hmid] at hsn2
          have HMS := Lib.hid hms
          have HKS := Lib.hid hks
          clear hm hms hks hmid
          go_wp2_with (at_builtin; refine wpList_append_own _ rfl _ _ 23 rfl w.heap.size 3 i0 (.int .i64 0) 1 8 Try.underlying23 hi hz0 hz1 hz2 rfl (by decide) _ _ _ rfl (hown.out.alloc _) ⟨wr.heap.size, 0, none⟩ 1 1 [.int .i64 y] rfl rfl (one_cell wr _ _) (by simp [Value.oneCell']) (by unfold maxLen; omega) (by omega) (by have := hbl.size; simp; omega) ?_)
          intro v' w1 hown' hgrow _
          rw [hsn.out] at hown'
          have HO1 := Lib.hid hown'
          have hb1 := own_below hown.out hbl hbl.size hgrow
          have hr1 := (hrd.alloc (Nat.le_trans hH hbl.size) (.cells #[.int .i64 y] 3)).below ((Below.refl H _).grown hgrow (by have := hbl.size; simp; omega) (fun q hq => Nat.le_trans hH (hown.out.lt q hq).1))
          clear hown' hgrow
          obtain ⟨b1, o1, e1, _, hcs1⟩ := hr1.at_ (by omega)
          injection e1 with e1
          injection e1 with e1 e2 _
          subst e1; subst e2
          have hc1 := hcs1 k hlt
          rw [HY.out] at hc1
          clear hcs1 hc
          go_wp2_with (at_builtin; refine wpList_append_own _ rfl _ _ 23 rfl w.heap.size 3 i0 (.int .i64 0) 1 8 Try.underlying23 hi hz0 hz1 hz2 rfl (by decide) _ _ _ rfl (HO1.out.alloc _) ⟨w1.heap.size, 0, none⟩ 1 1 [.int .i64 (n : Int)] rfl rfl (one_cell w1 _ _) (by simp [Value.oneCell']) (by unfold maxLen; omega) (by omega) (by have := hb1.size; simp; omega) ?_)
          intro v2 w2 hown2 hgrow2 _
          rw [hsn2.out] at hown2
          have HO2 := Lib.hid hown2
          have hb2 := own_below HO1.out hb1 hb1.size hgrow2
          have hr2 := (hr1.alloc (Nat.le_trans hH hb1.size) (.cells #[.int .i64 (n : Int)] 3)).below ((Below.refl H _).grown hgrow2 (by have := hb1.size; simp; omega) (fun q hq => Nat.le_trans hH (HO1.out.lt q hq).1))
          clear hown2 hgrow2
          go_wp2
          go_roundw
          case rel => exact ⟨k + 1, m + 1 + 1, by omega, by go_num, .inr ⟨by have := HMS.out; omega, by have := HKS.out; omega⟩, HO2, hr2, hb2⟩
          case measure => simp [intOf]; omega
        · have hb : (y == x) = false := by
            rw [beq_eq_false_iff_ne]
            exact fun he => hks (HON.out.1 he)
          have HM : Hid (m + 1 = k + 1 ∧ k + 1 ≤ s ∨ m + 1 = k + 1 + 1 ∧ s < k + 1) := by
            rcases hm with h | h
            · exact .inl ⟨by omega, by omega⟩
            · exact .inr ⟨by omega, by omega⟩
          clear hm hks
          go_wp2_with (at_builtin; refine wpList_append_own _ rfl _ _ 23 rfl w.heap.size 3 i0 (.int .i64 0) 1 8 Try.underlying23 hi hz0 hz1 hz2 rfl (by decide) _ _ _ rfl (hown.out.alloc _) ⟨wr.heap.size, 0, none⟩ 1 1 [.int .i64 y] rfl rfl (one_cell wr _ _) (by simp [Value.oneCell']) (by unfold maxLen; omega) (by omega) (by have := hbl.size; simp; omega) ?_)
          intro v' w1 hown' hgrow _
          rw [hsn.out] at hown'
          have HO1 := Lib.hid hown'
          have hb1 := own_below hown.out hbl hbl.size hgrow
          have hr1 := (hrd.alloc (Nat.le_trans hH hbl.size) (.cells #[.int .i64 y] 3)).below ((Below.refl H _).grown hgrow (by have := hbl.size; simp; omega) (fun q hq => Nat.le_trans hH (hown.out.lt q hq).1))
          clear hown' hgrow
          obtain ⟨b1, o1, e1, _, hcs1⟩ := hr1.at_ (by omega)
          injection e1 with e1
          injection e1 with e1 e2 _
          subst e1; subst e2
          have hc1 := hcs1 k hlt
          rw [HY.out] at hc1
          clear hcs1 hc
          go_wp2
          go_roundw
          case rel => exact ⟨k + 1, m + 1, by omega, by go_num, HM.out, HO1, hr1, hb1⟩
          case measure => simp [intOf]; omega
      · obtain rfl : k = n := by omega
        have hmk : m = k + 1 := by omega
        clear hm
        subst hmk
        have HO : Hid (Own wr w.heap.size u6 C) := by
          have := hown.out
          rw [List.take_of_length_le (by rw [HLEN.out]; omega)] at this
          unfold Hid Own
          rw [HLEN.out]
          exact this
        go_wp2
        go_ret2
        exact ⟨_, rfl, HO.out, hbl⟩

set_option maxHeartbeats 1000000 in
theorem ptI_any (A : Option Addr) (n c H : Nat) (l : List Int) (x : Int) (w : World) (h : Rd w H A n l) (hH : H ≤ w.heap.size) (hn : n ≤ 1048576) (hnc : n ≤ c) (hcm : c ≤ 9223372036854775807) :
    Calls Try.prog 54 #[.slice A n c, .int .i64 x] w fun e w' => ∃ v, e = .returned (.tuple #[v, .bool (putB l x)]) ∧ Own w' w.heap.size v (putR l x) ∧ Below w.heap.size w w' := by
  have hread := Lib.hid (readR_any A n c H l w h hH hn hnc hcm)
  have HL := Lib.hid h.len
  unfold putR
  by_cases hr : Ring l
  · have hl7 := hr.1.2.1
    obtain ⟨a0, a1, a2, a3, a4, a5, a6, hP⟩ := seven (padR_length l hl7)
    have hrp : ringP l = [a0, a1, a2, a3, a4, a5, a6] := by rw [ringP, if_pos hr, hP]
    have hhas := fun W => Lib.hid (has_any l x W hl7 hr.1.pos)
    have hin : hasB l x = decide (0 ≤ x ∧ x < l.length) := by rw [hasB, ring_yes hr, Bool.true_and]
    rw [← hin] at hhas
    unfold agp at hhas
    rw [hP] at hhas
    rw [hrp, ring_yes hr] at hread
    simp only [ints, List.map_cons, List.map_nil] at hhas hread
    have HH := Lib.hid hhas
    have h7 : n ≤ 7 := by rw [← HL.out]; exact hl7
    clear hhas hin hrp
    cases ht : hasB l x
    · have hp : putB l x = false := by rw [putB, ht, Bool.false_and]
      rw [hp, if_neg (by simp)]
      rw [ht] at HH
      clear hp ht hr hP hl7
      go_enter Try.func54, Try.ntmps54
      go_wp2_with fail
      refine hread.out.mono ?_
      rintro e W1 ⟨rfl, hb1⟩
      have HA := Lib.hid (new_ring W1)
      go_wp2_with (refine store_ring rfl _ _ rfl W1.heap.size zero7 [a0, a1, a2, a3, a4, a5, a6] rfl rfl rfl rfl HA ?_; intro w2 HA2 hg2 hs2; obtain ⟨c0, c1, c2, c3, c4, c5, c6⟩ := cells7 HA2.out; clear hs2)
      have hb2 := Lib.hid ((hb1.alloc hb1.size (.cells #[.int .i64 0, .int .i64 0, .int .i64 0, .int .i64 0, .int .i64 0, .int .i64 0, .int .i64 0] 49)).grown hg2 (by have := hb1.size; simp; omega) (by have := hb1.size; simp; omega))
      clear hg2 hb1
      refine ((HH.out _).out).mono ?_
      rintro e w3 ⟨rfl, hb3⟩
      have hb4 := Lib.hid (hb2.out.trans (hb3.mono hb2.out.size))
      clear hb3 c0 c1 c2 c3 c4 c5 c6
      go_wp2
      go_ret2
      exact ⟨_, rfl, World.ownsRow_nil _ _ _ _, hb4.out⟩
    · have hy := hasB_yes ht
      rw [ht] at HH
      by_cases h6 : n = 7
      · have hp : putB l x = false := by rw [putB, ht, Bool.true_and]; simp [HL.out, h6]
        rw [hp, if_neg (by simp)]
        have hb : (decide ((3 : Int) ≤ (n : Int) + 1) && decide ((n : Int) + 1 ≤ 7)) = false := by simp; omega
        clear hp ht hr hP hl7 hy
        go_enter Try.func54, Try.ntmps54
        subst h6
        go_wp2_with fail
        refine hread.out.mono ?_
        rintro e W1 ⟨rfl, hb1⟩
        have HA := Lib.hid (new_ring W1)
        go_wp2_with (refine store_ring rfl _ _ rfl W1.heap.size zero7 [a0, a1, a2, a3, a4, a5, a6] rfl rfl rfl rfl HA ?_; intro w2 HA2 hg2 hs2; obtain ⟨c0, c1, c2, c3, c4, c5, c6⟩ := cells7 HA2.out; clear hs2)
        have hb2 := Lib.hid ((hb1.alloc hb1.size (.cells #[.int .i64 0, .int .i64 0, .int .i64 0, .int .i64 0, .int .i64 0, .int .i64 0, .int .i64 0] 49)).grown hg2 (by have := hb1.size; simp; omega) (by have := hb1.size; simp; omega))
        clear hg2 hb1
        refine ((HH.out _).out).mono ?_
        rintro e w3 ⟨rfl, hb3⟩
        have hb4 := Lib.hid (hb2.out.trans (hb3.mono hb2.out.size))
        clear hb3 c0 c1 c2 c3 c4 c5 c6
        go_wp2_with (go_at_call 82; refine (sizeIn_any _ _).mono ?_; rintro e w' ⟨rfl, rfl⟩)
        go_ret2
        exact ⟨_, rfl, World.ownsRow_nil _ _ _ _, hb4.out⟩
      · have hp : putB l x = true := by rw [putB, ht, Bool.true_and]; simp [HL.out, h6]
        rw [hp, if_pos rfl]
        have hb : (decide ((3 : Int) ≤ (n : Int) + 1) && decide ((n : Int) + 1 ≤ 7)) = true := by
          have := hr.1.1
          rw [HL.out] at this
          simp; omega
        have hput := fun W => Lib.hid (put_any l x W hr.1 hy.2.2.2 (by rw [HL.out]; omega))
        have hlen := putL_length l x hy.2.2.2
        have hlist := fun W => Lib.hid (list_any (putL l x) W (by omega) (by rw [hlen, HL.out]; omega) (putL_pos l x hr.1.pos))
        unfold agp at hput hlist
        rw [hP] at hput
        have HC := Lib.hid hput
        have HLI := Lib.hid hlist
        clear hp ht hr hP hl7 hput hlist hy hlen
        generalize putL l x = C at *
        generalize padR C = Q at *
        go_enter Try.func54, Try.ntmps54
        go_wp2_with fail
        refine hread.out.mono ?_
        rintro e W1 ⟨rfl, hb1⟩
        have HA := Lib.hid (new_ring W1)
        go_wp2_with (refine store_ring rfl _ _ rfl W1.heap.size zero7 [a0, a1, a2, a3, a4, a5, a6] rfl rfl rfl rfl HA ?_; intro w2 HA2 hg2 hs2; obtain ⟨c0, c1, c2, c3, c4, c5, c6⟩ := cells7 HA2.out; clear hs2)
        have hb2 := Lib.hid ((hb1.alloc hb1.size (.cells #[.int .i64 0, .int .i64 0, .int .i64 0, .int .i64 0, .int .i64 0, .int .i64 0, .int .i64 0] 49)).grown hg2 (by have := hb1.size; simp; omega) (by have := hb1.size; simp; omega))
        clear hg2 hb1
        refine ((HH.out _).out).mono ?_
        rintro e w3 ⟨rfl, hb3⟩
        have hb4 := Lib.hid (hb2.out.trans (hb3.mono hb2.out.size))
        have HA3 := Lib.hid (HA2.out.below hb3 HA2.out.lt)
        clear hb3 c0 c1 c2 c3 c4 c5 c6
        go_wp2_with (first
          | (go_at_call 82; refine (sizeIn_any _ _).mono ?_; rintro e w' ⟨rfl, rfl⟩)
          | (refine load_ring rfl _ rfl W1.heap.size [a0, a1, a2, a3, a4, a5, a6] rfl rfl HA3 ?_))
        refine ((HC.out _).out).mono ?_
        rintro e w4 ⟨rfl, hb5⟩
        have hb6 := Lib.hid (hb4.out.trans (hb5.mono hb4.out.size))
        clear hb5
        go_wp2_with fail
        refine ((HLI.out _).out).mono ?_
        rintro e w5 ⟨v, rfl, ho, hb7⟩
        have HO := Lib.hid (own_less ho hb6.out.size)
        have hb8 := Lib.hid (hb6.out.trans (hb7.mono hb6.out.size))
        clear ho hb7
        go_wp2
        go_ret2
        exact ⟨_, rfl, HO.out, hb8.out⟩
  · have ht : putB l x = false := by rw [putB, hasB, ring_no hr, Bool.false_and, Bool.false_and]
    have H7 := Lib.hid (ringP_length l)
    rw [ht, if_neg (by simp)]
    rw [ring_no hr] at hread
    clear hr ht
    generalize ringP l = P at *
    go_enter Try.func54, Try.ntmps54
    go_wp2_with fail
    refine hread.out.mono ?_
    rintro e W1 ⟨rfl, hb1⟩
    have HA := Lib.hid (new_ring W1)
    go_wp2_with (refine store_ring rfl _ _ rfl W1.heap.size zero7 P rfl H7.out rfl rfl HA ?_; intro w2 HA2 hg2 hs2)
    have hb2 := (hb1.alloc hb1.size (.cells #[.int .i64 0, .int .i64 0, .int .i64 0, .int .i64 0, .int .i64 0, .int .i64 0, .int .i64 0] 49)).grown hg2 (by have := hb1.size; simp; omega) (by have := hb1.size; simp; omega)
    clear hg2 hs2 hb1
    go_ret2
    exact ⟨_, rfl, World.ownsRow_nil _ _ _ _, hb2⟩
end Go.Proofs.Ytgjgpnmldlnmgaa
