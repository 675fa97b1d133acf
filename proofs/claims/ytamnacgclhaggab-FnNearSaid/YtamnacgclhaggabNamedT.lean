/- RingNamed of the model and of the program. -/
import Derived.Test.YtamnacgclhaggabNamed
import Derived.Test.YtamnacgclhaggabMA
import Derived.Test.YtamnacgclhaggabPR
namespace Go.Proofs.Ytamnacgclhaggab
open Go.ChangeShapes Go.WideShapes Go.ChangeAt Go.RowKit

/-- A ring and as many numbers, each once. -/
def namedB (l p : List Int) : Bool := ringB l && (tell p && decide (p.length = l.length))
def namedR (l p : List Int) : List Int := if namedB l p then cutL (callL l p) 0 else []
theorem namedB_yes {l p : List Int} (h : namedB l p = true) : Ring l ∧ Tell p ∧ p.length = l.length := by
  simpa [namedB, ringB, tell] using h
theorem namedR_length (l p : List Int) : (namedR l p).length ≤ 7 := by
  unfold namedR
  split
  · rename_i h; rw [cutL_length, callL_length]; exact (namedB_yes h).1.1.2.1
  · simp

set_option maxHeartbeats 1000000 in
theorem nmS_any (A : Option Addr) (n c : Nat) (A' : Option Addr) (n' c' H : Nat) (l p : List Int) (w : World) (h : Rd w H A n l) (h' : Rd w H A' n' p) (hH : H ≤ w.heap.size) (hn : n ≤ 1048576) (hn' : n' ≤ 1048576) :
    Calls Try.prog 44 #[.slice A n c, .slice A' n' c'] w fun e w' => ∃ v, e = .returned (.tuple #[v, .bool (namedB l p)]) ∧ Own w' w.heap.size v (namedR l p) ∧ Below w.heap.size w w' := by
  obtain ⟨i0, hi, hz0, hz1, hz2⟩ := info_parts int_info
  have he := fun W hW => Lib.hid (ringS_any A n c H l W hW hn)
  have HE := Lib.hid he
  have hf := fun W hW => Lib.hid (every_any A' n' c' H p W hW hn')
  have HF := Lib.hid hf
  have HL := Lib.hid h.len
  have HL' := Lib.hid h'.len
  clear he hf
  unfold namedR
  cases hb : namedB l p
  · rw [if_neg (by simp)]
    by_cases hr : Ring l
    · rw [ring_yes hr] at HE
      by_cases ht : Tell p
      · rw [tell_yes ht] at HF
        have hne : ((n' : Int) != (n : Int)) = true := by
          have := hb
          simp only [namedB, ring_yes hr, tell_yes ht, Bool.true_and, decide_eq_false_iff_not, HL.out, HL'.out] at this
          rw [bne_iff_ne]; omega
        clear hb hr ht
        go_enter Try.func44, Try.ntmps44
        go_wp2_with (first
          | (go_at_call 52; refine ((HE.out _ h).out).mono ?_; rintro e w' ⟨rfl, rfl⟩)
          | (go_at_call 95; refine ((HF.out _ h').out).mono ?_; rintro e w' ⟨rfl, rfl⟩))
        refine (none_any w).mono ?_
        rintro e w1 ⟨v, rfl, ho, hb⟩
        have HO := Lib.hid ho
        have HB := Lib.hid hb
        clear ho hb
        go_wp2
        go_ret2
        exact ⟨_, rfl, HO.out, HB.out⟩
      · rw [tell_no ht] at HF
        clear hb hr ht
        go_enter Try.func44, Try.ntmps44
        go_wp2_with (first
          | (go_at_call 52; refine ((HE.out _ h).out).mono ?_; rintro e w' ⟨rfl, rfl⟩)
          | (go_at_call 95; refine ((HF.out _ h').out).mono ?_; rintro e w' ⟨rfl, rfl⟩))
        refine (none_any w).mono ?_
        rintro e w1 ⟨v, rfl, ho, hb⟩
        have HO := Lib.hid ho
        have HB := Lib.hid hb
        clear ho hb
        go_wp2
        go_ret2
        exact ⟨_, rfl, HO.out, HB.out⟩
    · rw [ring_no hr] at HE
      clear hb hr
      go_enter Try.func44, Try.ntmps44
      go_wp2_with (go_at_call 52; refine ((HE.out _ h).out).mono ?_; rintro e w' ⟨rfl, rfl⟩)
      refine (none_any w).mono ?_
      rintro e w1 ⟨v, rfl, ho, hb⟩
      have HO := Lib.hid ho
      have HB := Lib.hid hb
      clear ho hb
      go_wp2
      go_ret2
      exact ⟨_, rfl, HO.out, HB.out⟩
  · rw [if_pos rfl]
    obtain ⟨hr, ht, hne⟩ := namedB_yes hb
    have hnn : n' = n := by rw [← HL.out, ← HL'.out]; exact hne
    subst hnn
    have h3 := hr.1.1
    have h7 := hr.1.2.1
    rw [HL.out] at h3 h7
    rw [ring_yes hr] at HE
    rw [tell_yes ht] at HF
    have hcut := fun A1 c1 H1 W hR hH1 => Lib.hid (cutS_any A1 n' c1 H1 (callL l p) 0 W hR hH1 (by omega) h7 (callL_zero l p hr.1 ht hne))
    have HCUT := Lib.hid hcut
    have hget : Hid (∀ k, k < n' → (callL l p).getD k 0 = p.getD (l.getD k 0).toNat 0) := fun k hk => callL_get l p k (by rw [HL.out]; exact hk)
    have HIN : Hid (∀ k, k < n' → 0 ≤ l.getD k 0 ∧ l.getD k 0 < n') := fun k hk => by
      have := hr.1.2.2.1 _ (getD_mem l k (by rw [HL.out]; exact hk))
      rw [HL.out] at this
      exact this
    have HCL : Hid ((callL l p).length = n') := by rw [Hid, callL_length, HL.out]
    have ho0 := own_empty w _ (Nat.le_refl _)
    have hb0 := (Below.refl w.heap.size w).alloc (Nat.le_refl _) (.cells #[] 3)
    have hr0 := h.alloc hH (.cells #[] 3)
    have hq0 := h'.alloc hH (.cells #[] 3)
    clear hb hr ht hcut hne
    generalize callL l p = C at *
    go_enter Try.func44, Try.ntmps44
    go_wp2_with (first
      | (go_at_call 52; refine ((HE.out _ h).out).mono ?_; rintro e w' ⟨rfl, rfl⟩)
      | (go_at_call 95; refine ((HF.out _ h').out).mono ?_; rintro e w' ⟨rfl, rfl⟩))
    obtain ⟨W0, h0⟩ : ∃ W, W = w.alloc (.cells #[] 3) := ⟨_, rfl⟩
    rw [← h0] at ho0 hb0 hr0 hq0 ⊢
    clear h0 h h' HE HF
    go_loopw [6, 7] (fun v i wr => ∃ k : Nat, k ≤ n' ∧ i = .int .i64 k ∧ Hid (wr.ownsRow w.heap.size 3 1 v k (ints (C.take k))) ∧ Rd wr H A n' l ∧ Rd wr H A' n' p ∧ Below w.heap.size w wr) (fun _ i _ => n' - (intOf i).toNat)
    case atStart => exact ⟨0, Nat.zero_le _, rfl, by simpa [Own, Hid, ints] using ho0, hr0, hq0, hb0⟩
    case round =>
      obtain ⟨k, hk, rfl, hown, hrd, hrp, hbl⟩ := hrel
      clear ho0 hb0 hr0 hq0
      by_cases hlt : k < n'
      · obtain ⟨b, o, rfl, hbH, hcs⟩ := hrd.at_ (by omega)
        obtain ⟨b', o', rfl, hbH', hcs'⟩ := hrp.at_ (by omega)
        have hc := hcs k hlt
        obtain ⟨hx0, hx1⟩ := HIN.out k hlt
        have hc' := hcs' (l.getD k 0).toNat (by omega)
        rw [← hget.out k hlt] at hc'
        have hsn := Lib.hid (take_snoc C k (by rw [HCL.out]; exact hlt))
        clear hcs hcs'
        generalize C.getD k 0 = y at hc' hsn
        generalize l.getD k 0 = x at *
        go_wp2_with (at_builtin; refine wpList_append_own _ rfl _ _ 23 rfl w.heap.size 3 i0 (.int .i64 0) 1 8 Try.underlying23 hi hz0 hz1 hz2 rfl (by decide) _ _ _ rfl (hown.out.alloc _) ⟨wr.heap.size, 0, none⟩ 1 1 [.int .i64 y] rfl rfl (one_cell wr _ _) (by simp [Value.oneCell']) (by unfold maxLen; omega) (by omega) (by have := hbl.size; simp; omega) ?_)
        intro v' w1 hown' hgrow _
        rw [hsn.out] at hown'
        have HO := Lib.hid hown'
        have hb1 := own_below hown.out hbl hbl.size hgrow
        have hr1 := (hrd.alloc (Nat.le_trans hH hbl.size) (.cells #[.int .i64 y] 3)).below ((Below.refl H _).grown hgrow (by have := hbl.size; simp; omega) (fun q hq => Nat.le_trans hH (hown.out.lt q hq).1))
        have hq1 := (hrp.alloc (Nat.le_trans hH hbl.size) (.cells #[.int .i64 y] 3)).below ((Below.refl H _).grown hgrow (by have := hbl.size; simp; omega) (fun q hq => Nat.le_trans hH (hown.out.lt q hq).1))
        clear hown' hgrow
        go_wp2
        go_roundw
        case rel => exact ⟨k + 1, by omega, by go_num, HO, hr1, hq1, hb1⟩
        case measure => simp [intOf]; omega
      · obtain rfl : k = n' := by omega
        have hfull : Own wr w.heap.size u6 C := by
          have := hown.out
          rw [List.take_of_length_le (by rw [HCL.out]; omega)] at this
          unfold Own
          rw [HCL.out]
          exact this
        obtain ⟨A1, c1, rfl⟩ := hfull.slice
        have hrC := hfull.rd.2
        rw [HCL.out] at hrC
        have hln := Lib.hid HCL.out
        clear hown hfull
        rw [HCL.out]
        go_wp2_with fail
        refine ((HCUT.out A1 c1 _ _ hrC (Nat.le_refl _)).out).mono ?_
        rintro e w2 ⟨v2, rfl, ho2, hb2⟩
        have HO := Lib.hid (own_less ho2 hbl.size)
        have HB := Lib.hid (hbl.trans (hb2.mono hbl.size))
        clear ho2 hb2
        go_wp2
        go_ret2
        exact ⟨_, rfl, HO.out, HB.out⟩

set_option maxHeartbeats 2000000 in
theorem nmI_any (A : Option Addr) (n c : Nat) (A' : Option Addr) (n' c' H : Nat) (l p : List Int) (w : World) (h : Rd w H A n l) (h' : Rd w H A' n' p) (hH : H ≤ w.heap.size) (hn : n ≤ 1048576) (hn' : n' ≤ 1048576)
    (hnc : n ≤ c) (hcm : c ≤ 9223372036854775807) (hnc' : n' ≤ c') (hcm' : c' ≤ 9223372036854775807) :
    Calls Try.prog 43 #[.slice A n c, .slice A' n' c'] w fun e w' => ∃ v, e = .returned (.tuple #[v, .bool (namedB l p)]) ∧ Own w' w.heap.size v (namedR l p) ∧ Below w.heap.size w w' := by
  have hread := Lib.hid (readR_any A n c H l w h hH hn hnc hcm)
  have ht := fun W H1 hR hH1 => Lib.hid (readT_any A' n' c' H1 p W hR hH1 hn' hnc' hcm')
  have HT := Lib.hid ht
  have H7 := Lib.hid (ringP_length l)
  have HQ7 := Lib.hid (readP_length p)
  have HL := Lib.hid h.len
  have HL' := Lib.hid h'.len
  clear ht
  unfold namedR
  cases hb : namedB l p
  · rw [if_neg (by simp)]
    by_cases hr : Ring l
    · rw [ring_yes hr] at hread
      by_cases ht : Tell p
      · rw [tell_yes ht] at HT
        have hne : ((n : Int) != (n' : Int)) = true := by
          have := hb
          simp only [namedB, ring_yes hr, tell_yes ht, Bool.true_and, decide_eq_false_iff_not, HL.out, HL'.out] at this
          rw [bne_iff_ne]; omega
        clear hb hr ht
        generalize ringP l = P at *
        generalize readP p = Q at *
        go_enter Try.func43, Try.ntmps43
        go_wp2_with fail
        refine hread.out.mono ?_
        rintro e W1 ⟨rfl, hb1⟩
        have HA := Lib.hid (new_ring W1)
        go_wp2_with (refine store_ring rfl _ _ rfl W1.heap.size zero7 P rfl H7.out rfl rfl HA ?_; intro w2 HA2 hg2 hs2)
        have hb2 := Lib.hid ((hb1.alloc hb1.size (.cells #[.int .i64 0, .int .i64 0, .int .i64 0, .int .i64 0, .int .i64 0, .int .i64 0, .int .i64 0] 50)).grown hg2 (by have := hb1.size; simp; omega) (by have := hb1.size; simp; omega))
        have hl2 := HA2.out.lt
        have hp2 := Lib.hid (h'.below (hb2.out.mono hH))
        have hs22 := hb2.out.size
        clear hg2 hs2 hb1
        refine ((HT.out _ _ hp2.out (by omega)).out).mono ?_
        rintro e W3 ⟨rfl, hb3⟩
        have HA3 := Lib.hid (HA2.out.below hb3 hl2)
        have hb4 := Lib.hid (hb2.out.trans (hb3.mono hs22))
        have hl3 := HA3.out.lt
        have hs3 := hb3.size
        clear hb3
        have HC := Lib.hid (new_ring W3)
        have HA4 := Lib.hid (HA3.out.alloc (.cells #[.int .i64 0, .int .i64 0, .int .i64 0, .int .i64 0, .int .i64 0, .int .i64 0, .int .i64 0] 50))
        have hb5 := Lib.hid (hb4.out.alloc hb4.out.size (.cells #[.int .i64 0, .int .i64 0, .int .i64 0, .int .i64 0, .int .i64 0, .int .i64 0, .int .i64 0] 50))
        go_wp2_with (first
          | (refine store_ring rfl _ _ rfl W3.heap.size zero7 Q rfl HQ7.out rfl rfl HC ?_; intro w4 HC4 hg4 hs4; have HA5 := Lib.hid (HA4.out.grown hg4 (by omega)); have hb6 := Lib.hid (hb5.out.grown hg4 (by simp; omega) (by simp; omega)); clear hs4 hg4)
          | (refine load_ring rfl _ rfl W1.heap.size P H7.out rfl HA5 ?_)
          | (refine load_ring rfl _ rfl W3.heap.size Q HQ7.out rfl HC4 ?_))
        go_ret2
        exact ⟨_, rfl, World.ownsRow_nil _ _ _ _, hb6.out⟩
      · rw [tell_no ht] at HT
        clear hb hr ht
        generalize ringP l = P at *
        generalize readP p = Q at *
        go_enter Try.func43, Try.ntmps43
        go_wp2_with fail
        refine hread.out.mono ?_
        rintro e W1 ⟨rfl, hb1⟩
        have HA := Lib.hid (new_ring W1)
        go_wp2_with (refine store_ring rfl _ _ rfl W1.heap.size zero7 P rfl H7.out rfl rfl HA ?_; intro w2 HA2 hg2 hs2)
        have hb2 := Lib.hid ((hb1.alloc hb1.size (.cells #[.int .i64 0, .int .i64 0, .int .i64 0, .int .i64 0, .int .i64 0, .int .i64 0, .int .i64 0] 50)).grown hg2 (by have := hb1.size; simp; omega) (by have := hb1.size; simp; omega))
        have hl2 := HA2.out.lt
        have hp2 := Lib.hid (h'.below (hb2.out.mono hH))
        have hs22 := hb2.out.size
        clear hg2 hs2 hb1
        refine ((HT.out _ _ hp2.out (by omega)).out).mono ?_
        rintro e W3 ⟨rfl, hb3⟩
        have HA3 := Lib.hid (HA2.out.below hb3 hl2)
        have hb4 := Lib.hid (hb2.out.trans (hb3.mono hs22))
        have hl3 := HA3.out.lt
        have hs3 := hb3.size
        clear hb3
        have HC := Lib.hid (new_ring W3)
        have HA4 := Lib.hid (HA3.out.alloc (.cells #[.int .i64 0, .int .i64 0, .int .i64 0, .int .i64 0, .int .i64 0, .int .i64 0, .int .i64 0] 50))
        have hb5 := Lib.hid (hb4.out.alloc hb4.out.size (.cells #[.int .i64 0, .int .i64 0, .int .i64 0, .int .i64 0, .int .i64 0, .int .i64 0, .int .i64 0] 50))
        go_wp2_with (first
          | (refine store_ring rfl _ _ rfl W3.heap.size zero7 Q rfl HQ7.out rfl rfl HC ?_; intro w4 HC4 hg4 hs4; have HA5 := Lib.hid (HA4.out.grown hg4 (by omega)); have hb6 := Lib.hid (hb5.out.grown hg4 (by simp; omega) (by simp; omega)); clear hs4 hg4)
          | (refine load_ring rfl _ rfl W1.heap.size P H7.out rfl HA5 ?_)
          | (refine load_ring rfl _ rfl W3.heap.size Q HQ7.out rfl HC4 ?_))
        go_ret2
        exact ⟨_, rfl, World.ownsRow_nil _ _ _ _, hb6.out⟩
    · rw [ring_no hr] at hread
      clear hb hr
      generalize ringP l = P at *
      generalize readP p = Q at *
      generalize tell p = tp at *
      go_enter Try.func43, Try.ntmps43
      go_wp2_with fail
      refine hread.out.mono ?_
      rintro e W1 ⟨rfl, hb1⟩
      have HA := Lib.hid (new_ring W1)
      go_wp2_with (refine store_ring rfl _ _ rfl W1.heap.size zero7 P rfl H7.out rfl rfl HA ?_; intro w2 HA2 hg2 hs2)
      have hb2 := Lib.hid ((hb1.alloc hb1.size (.cells #[.int .i64 0, .int .i64 0, .int .i64 0, .int .i64 0, .int .i64 0, .int .i64 0, .int .i64 0] 50)).grown hg2 (by have := hb1.size; simp; omega) (by have := hb1.size; simp; omega))
      have hl2 := HA2.out.lt
      have hp2 := Lib.hid (h'.below (hb2.out.mono hH))
      have hs22 := hb2.out.size
      clear hg2 hs2 hb1
      refine ((HT.out _ _ hp2.out (by omega)).out).mono ?_
      rintro e W3 ⟨rfl, hb3⟩
      have HA3 := Lib.hid (HA2.out.below hb3 hl2)
      have hb4 := Lib.hid (hb2.out.trans (hb3.mono hs22))
      have hl3 := HA3.out.lt
      have hs3 := hb3.size
      clear hb3
      have HC := Lib.hid (new_ring W3)
      have HA4 := Lib.hid (HA3.out.alloc (.cells #[.int .i64 0, .int .i64 0, .int .i64 0, .int .i64 0, .int .i64 0, .int .i64 0, .int .i64 0] 50))
      have hb5 := Lib.hid (hb4.out.alloc hb4.out.size (.cells #[.int .i64 0, .int .i64 0, .int .i64 0, .int .i64 0, .int .i64 0, .int .i64 0, .int .i64 0] 50))
      go_wp2_with (first
        | (refine store_ring rfl _ _ rfl W3.heap.size zero7 Q rfl HQ7.out rfl rfl HC ?_; intro w4 HC4 hg4 hs4; have HA5 := Lib.hid (HA4.out.grown hg4 (by omega)); have hb6 := Lib.hid (hb5.out.grown hg4 (by simp; omega) (by simp; omega)); clear hs4 hg4)
        | (refine load_ring rfl _ rfl W1.heap.size P H7.out rfl HA5 ?_)
        | (refine load_ring rfl _ rfl W3.heap.size Q HQ7.out rfl HC4 ?_))
      go_ret2
      exact ⟨_, rfl, World.ownsRow_nil _ _ _ _, hb6.out⟩
  · rw [if_pos rfl]
    obtain ⟨hr, ht, hne⟩ := namedB_yes hb
    have hnn : n' = n := by rw [← HL.out, ← HL'.out]; exact hne
    subst hnn
    have hP : Hid (ringP l = padR l) := by rw [Hid, ringP, if_pos hr]
    have hQ : Hid (readP p = padR p) := by rw [Hid, readP, if_pos ht]
    have hcut := fun W => Lib.hid (named_any l p W hr.1 ht hne)
    have hlen : (cutL (callL l p) 0).length = l.length := by rw [cutL_length, callL_length]
    have hlist := fun W => Lib.hid (list_any (cutL (callL l p) 0) W (by rw [hlen]; have := hr.1.1; omega) (by rw [hlen]; exact hr.1.2.1) (fun x hx => by
      obtain ⟨i, _, rfl⟩ := List.mem_map.1 hx
      exact callL_pos l p hr.1 ht hne _ (getD_mem _ _ (Nat.mod_lt _ (by rw [callL_length]; have := hr.1.1; omega)))))
    have HCC := Lib.hid hcut
    have HLI := Lib.hid hlist
    rw [ring_yes hr] at hread
    rw [tell_yes ht] at HT
    rw [hP.out] at hread H7
    rw [hQ.out] at HT HQ7
    clear hb hr ht hcut hlist hlen hne hP hQ
    unfold agp at HCC HLI
    generalize padR l = P at *
    generalize padR p = Q at *
    generalize cutL (callL l p) 0 = C at *
    generalize padR C = D at *
    go_enter Try.func43, Try.ntmps43
    go_wp2_with fail
    refine hread.out.mono ?_
    rintro e W1 ⟨rfl, hb1⟩
    have HA := Lib.hid (new_ring W1)
    go_wp2_with (refine store_ring rfl _ _ rfl W1.heap.size zero7 P rfl H7.out rfl rfl HA ?_; intro w2 HA2 hg2 hs2)
    have hb2 := Lib.hid ((hb1.alloc hb1.size (.cells #[.int .i64 0, .int .i64 0, .int .i64 0, .int .i64 0, .int .i64 0, .int .i64 0, .int .i64 0] 50)).grown hg2 (by have := hb1.size; simp; omega) (by have := hb1.size; simp; omega))
    have hl2 := HA2.out.lt
    have hp2 := Lib.hid (h'.below (hb2.out.mono hH))
    have hs22 := hb2.out.size
    clear hg2 hs2 hb1
    refine ((HT.out _ _ hp2.out (by omega)).out).mono ?_
    rintro e W3 ⟨rfl, hb3⟩
    have HA3 := Lib.hid (HA2.out.below hb3 hl2)
    have hb4 := Lib.hid (hb2.out.trans (hb3.mono hs22))
    have hl3 := HA3.out.lt
    have hs3 := hb3.size
    clear hb3
    have HC := Lib.hid (new_ring W3)
    have HA4 := Lib.hid (HA3.out.alloc (.cells #[.int .i64 0, .int .i64 0, .int .i64 0, .int .i64 0, .int .i64 0, .int .i64 0, .int .i64 0] 50))
    have hb5 := Lib.hid (hb4.out.alloc hb4.out.size (.cells #[.int .i64 0, .int .i64 0, .int .i64 0, .int .i64 0, .int .i64 0, .int .i64 0, .int .i64 0] 50))
    go_wp2_with (first
      | (refine store_ring rfl _ _ rfl W3.heap.size zero7 Q rfl HQ7.out rfl rfl HC ?_; intro w4 HC4 hg4 hs4; have HA5 := Lib.hid (HA4.out.grown hg4 (by omega)); have hb6 := Lib.hid (hb5.out.grown hg4 (by simp; omega) (by simp; omega)); clear hs4 hg4)
      | (refine load_ring rfl _ rfl W1.heap.size P H7.out rfl HA5 ?_)
      | (refine load_ring rfl _ rfl W3.heap.size Q HQ7.out rfl HC4 ?_))
    refine ((HCC.out _).out).mono ?_
    rintro e w5 ⟨rfl, hb7⟩
    have hb8 := Lib.hid (hb6.out.trans (hb7.mono hb6.out.size))
    clear hb7
    go_wp2_with fail
    refine ((HLI.out _).out).mono ?_
    rintro e w6 ⟨v, rfl, ho, hb9⟩
    have HO := Lib.hid (own_less ho hb8.out.size)
    have hb10 := Lib.hid (hb8.out.trans (hb9.mono hb8.out.size))
    clear ho hb9
    go_wp2
    go_ret2
    exact ⟨_, rfl, HO.out, hb10.out⟩
end Go.Proofs.Ytamnacgclhaggab
