/- A pattern: each point called by how many lesser ones there are; the pattern of a ring at a set: the program. -/
import Derived.Test.YtphffefkjbgibabDoorPnM
import Derived.Test.YtphffefkjbgibabDoorWvN
namespace Go.Proofs.YtphffefkjbgibabDoor
open Go.ChangeShapes Go.WideShapes Go.ChangeAt Go.RowKit

theorem les_step (l : List Int) (x : Int) (k : Nat) (hk : k < l.length) : lesN (l.take (k + 1)) x = lesN (l.take k) x + if l.getD k 0 < x then 1 else 0 := by
  unfold lesN
  rw [List.take_succ_eq_append_getElem hk, List.countP_append]
  simp [List.countP_cons, List.getD, hk]
theorem les_le (l : List Int) (x : Int) (k : Nat) : lesN (l.take k) x ≤ k := by
  unfold lesN
  have h1 := List.countP_le_length (p := fun y => decide (y < x)) (l := l.take k)
  rw [List.length_take] at h1
  omega

theorem lesser_any (A : Option Addr) (n c H : Nat) (l : List Int) (x : Int) (w : World) (h : Rd w H A n l) (hn : n ≤ 1048576) :
    Calls Tryd.prog 74 #[.slice A n c, .int .i64 x] w fun e w' => e = .returned (.int .i64 (lesN l x : Int)) ∧ w = w' := by
  have HL := Lib.hid h.len
  have HST := Lib.hid (les_step l x)
  have HLE := Lib.hid (les_le l x)
  have HF : Hid (lesN (l.take n) x = lesN l x) := by rw [Hid, List.take_of_length_le (by rw [HL.out]; omega)]
  have H0 : Hid (lesN (l.take 0) x = 0) := rfl
  obtain ⟨f, hf⟩ : ∃ f : Nat → Nat, f = fun k => lesN (l.take k) x := ⟨_, rfl⟩
  have e : ∀ k, lesN (l.take k) x = f k := fun k => by rw [hf]
  simp only [e] at HST HLE HF H0
  rw [← HF.out]
  clear hf e HF
  go_enter Tryd.func74, Tryd.ntmps74
  go_wp2
  go_loop [5, 10] (fun q i => ∃ k : Nat, k ≤ n ∧ i = .int .i64 k ∧ ∃ z : Nat, q = .int .i64 (z : Int) ∧ Hid (z = f k)) (fun _ i => n - (intOf i).toNat)
  case atStart => exact ⟨0, Nat.zero_le _, rfl, 0, rfl, H0.out.symm⟩
  case round =>
    obtain ⟨k, hk, rfl, z, rfl, hz⟩ := hrel
    by_cases hlt : k < n
    · obtain ⟨b, o, rfl, hbH, hcs⟩ := h.at_ (by omega)
      have hc := hcs k hlt
      have T := Lib.hid (HST.out k (by rw [HL.out]; exact hlt))
      have hzk : z ≤ k := by rw [hz.out]; exact HLE.out k
      clear hcs
      generalize l.getD k 0 = y at hc T
      by_cases hy : y < x
      · have T2 : Hid (z + 1 = f (k + 1)) := by rw [Hid, T.out, if_pos hy, ← hz.out]
        clear T hz
        go_wp2
        go_round
        case rel => exact ⟨k + 1, by omega, by go_num, z + 1, by go_num, T2⟩
        case measure => simp [intOf]; omega
      · have T2 : Hid (z = f (k + 1)) := by rw [Hid, T.out, if_neg hy, ← hz.out, Nat.add_zero]
        clear T hz
        go_wp2
        go_round
        case rel => exact ⟨k + 1, by omega, by go_num, z, rfl, T2⟩
        case measure => simp [intOf]; omega
    · obtain rfl : k = n := by omega
      have hz' := hz.out
      subst hz'
      go_wp2
      go_ret
      exact ⟨rfl, rfl⟩

theorem padK_zero (l : List Int) : padK l 0 = neg7 := rfl
theorem rng_length (l : List Int) : (rngL l).length = l.length := by simp [rngL]
theorem rng_get (l : List Int) (k : Nat) (hk : k < l.length) : (rngL l).getD k 0 = (lesN l (l.getD k 0) : Int) := by simp [rngL, List.getD, hk]

set_option maxRecDepth 10000 in
set_option maxHeartbeats 1000000 in
theorem rngI_any (A : Option Addr) (n c H : Nat) (l : List Int) (w : World) (h : Rd w H A n l) (hH : H ≤ w.heap.size) (hn : n ≤ 7) :
    Calls Tryd.prog 65 #[.slice A n c] w fun e w' => e = .returned (agp (rngL l)) ∧ Below w.heap.size w w' := by
  have HL := Lib.hid h.len
  have HC := Lib.hid (fun (x : Int) (W : World) (hW : Rd W H A n l) => lesser_any A n c H l x W hW (by omega))
  have HK := Lib.hid (fun k (hk : k < n) => padK_step (rngL l) k (by rw [rng_length, HL.out]; exact hk) (by omega))
  have HG := Lib.hid (fun k (hk : k < n) => rng_get l k (by rw [HL.out]; exact hk))
  have H7 := Lib.hid (fun k (hk : k ≤ n) => padK_length (rngL l) k (by rw [rng_length, HL.out]; exact hk) (by omega))
  have HE : Hid (padK (rngL l) n = padR (rngL l)) := by
    have := padK_full (rngL l)
    rw [rng_length, HL.out] at this
    exact this
  unfold agp
  rw [← HE.out]
  obtain ⟨W0, hW⟩ : ∃ W, W = w.alloc (.cells #[.int .i64 0, .int .i64 0, .int .i64 0, .int .i64 0, .int .i64 0, .int .i64 0, .int .i64 0] 38) := ⟨_, rfl⟩
  have HA0 : Hid (Arr W0 w.heap.size zero7) := by rw [hW]; exact new_ring w
  have HB0 : Hid (Below w.heap.size w W0 ∧ W0.heap.size = w.heap.size + 1) := by rw [hW]; exact ⟨(Below.refl _ _).alloc (Nat.le_refl _) _, by simp⟩
  have HR := Lib.hid (fun (W : World) (hb : Below w.heap.size w W) => h.below (hb.mono hH))
  generalize rngL l = R at *
  clear h HE
  go_enter Tryd.func65, Tryd.ntmps65
  go_wp2_with fail
  rw [← hW]
  clear hW
  refine (empty_any W0).mono ?_
  rintro e w1 ⟨rfl, hb1⟩
  have hs1 := hb1.size
  have HA1 := Lib.hid (HA0.out.below hb1 HA0.out.lt)
  have HB1 := Lib.hid (HB0.out.1.trans (hb1.mono (by have := HB0.out.2; omega)))
  have HNR := Lib.hid (new_ring w1)
  have hs0 := HB0.out.2
  clear HA0 HB0 hb1
  go_wp2_with (first
    | (refine store_ring rfl _ _ rfl w1.heap.size zero7 (padK R 0) rfl rfl rfl rfl HNR ?_; intro w2 HQ2 hg2 hs2
       have HA2 := Lib.hid ((HA1.out.alloc (.cells #[.int .i64 0, .int .i64 0, .int .i64 0, .int .i64 0, .int .i64 0, .int .i64 0, .int .i64 0] 38)).grown hg2 (by omega))
       have HB2 := Lib.hid ((HB1.out.alloc (by omega) (.cells #[.int .i64 0, .int .i64 0, .int .i64 0, .int .i64 0, .int .i64 0, .int .i64 0, .int .i64 0] 38)).grown hg2 (by simp; omega) (by simp; omega))
       have hs2' : w2.heap.size = w1.heap.size + 1 := by rw [hs2]; simp
       clear HA1 HB1 hg2 hs2 HNR))
  have HGB : w.heap.size < w1.heap.size := by omega
  generalize hGG : w1.heap.size = G at *
  clear hGG hs1 hs0
  go_loopw [9] (fun i wr => ∃ k : Nat, k ≤ n ∧ i = .int .i64 k ∧ Hid (Arr wr G (padK R k)) ∧ Hid (Arr wr w.heap.size zero7) ∧ Hid (Below w.heap.size w wr)) (fun i _ => n - (intOf i).toNat)
  case atStart => exact ⟨0, Nat.zero_le _, rfl, HQ2, HA2, HB2⟩
  case round =>
    obtain ⟨k, hk, rfl, hQ, hA, hbl⟩ := hrel
    clear HQ2 HA2 HB2 hs2'
    by_cases hlt : k < n
    · have hrd := HR.out wr hbl.out
      have HCK := Lib.hid (HC.out (l.getD k 0) wr hrd)
      rw [← HG.out k hlt] at HCK
      obtain ⟨b, o, e, hbH, hcs⟩ := hrd.at_ (by omega)
      have hc := hcs k hlt
      have hcg := hQ.out.cell (i := k) (by rw [H7.out k hk]; omega)
      have hfg := hQ.out.frozen k
      have hst := hQ.out.set_ k (R.getD k 0)
      rw [HK.out k hlt] at hst
      have HST := Lib.hid hst
      clear hst hcs hrd
      subst e
      generalize (padK R k).getD k 0 = old at hcg
      generalize R.getD k 0 = y at *
      generalize l.getD k 0 = x at *
      go_wp2_with fail
      refine HCK.out.mono ?_
      rintro e w' ⟨rfl, rfl⟩
      go_wp2
      go_roundw
      case rel => exact ⟨k + 1, by omega, by go_num, HST, Lib.hid (hA.out.far (by simp; omega) _), Lib.hid (hbl.out.setCell (by simp; omega) _)⟩
      case measure => simp [intOf]; omega
    · obtain rfl : k = n := by omega
      have h7 := Lib.hid (H7.out k (Nat.le_refl _))
      have hsz := hbl.out.size
      obtain ⟨PR, hPR⟩ : ∃ PR, PR = padK R k := ⟨_, rfl⟩
      rw [← hPR] at h7 hQ
      have HPR := Lib.hid hPR
      clear hPR
      go_wp2_with (first
        | (refine load_ring rfl _ rfl G PR h7.out rfl hQ ?_)
        | (refine store_ring rfl _ _ rfl w.heap.size zero7 PR rfl h7.out rfl rfl hA ?_; intro w6 HB6 hg6 _))
      try simp only [Exit.inBlock, Exit.then]
      exact ret_ring rfl w.heap.size PR h7.out rfl HB6 rfl ⟨by rw [HPR.out], hbl.out.grown hg6 (by omega) (by simp)⟩

set_option maxRecDepth 10000 in
set_option maxHeartbeats 1000000 in
theorem patAt_any (l : List Int) (s : Nat) (w : World) (ht : Tell l) (h0 : 0 < s) (hs : s < 2 ^ l.length) (hT : Tab w) :
    Calls Tryd.prog 44 #[agp l, .int .i64 (s : Int)] w fun e w' => e = .returned (agp (patL l s)) ∧ Below w.heap.size w w' := by
  have h7 := ht.2.1
  obtain ⟨W0, hW⟩ : ∃ W, W = (w.alloc (.cells (ints (padR l)).toArray 38)).alloc (.cells #[.int .i64 0, .int .i64 0, .int .i64 0, .int .i64 0, .int .i64 0, .int .i64 0, .int .i64 0] 38) := ⟨_, rfl⟩
  have HA0 : Hid (Arr W0 w.heap.size (padR l)) := by
    have h1 : Arr (w.alloc (.cells (ints (padR l)).toArray 38)) w.heap.size (padR l) := heap_alloc_new w _
    rw [hW]; exact h1.alloc _
  have HZ0 : Hid (Arr W0 (w.heap.size + 1) zero7) := by
    have := new_ring (w.alloc (.cells (ints (padR l)).toArray 38))
    rw [hW, Hid]; simpa using this
  have HB0 : Hid (Below w.heap.size w W0 ∧ W0.heap.size = w.heap.size + 2) := by rw [hW]; exact ⟨((Below.refl _ _).alloc (Nat.le_refl _) _).alloc (by simp) _, by simp⟩
  have HP7 := Lib.hid (padR_length l h7)
  have HPT := Lib.hid (part_any l s W0 ht h0 hs (hT.on HB0.out.1))
  have hpl : (partL l s).length ≤ 7 := Nat.le_trans (part_length l s) h7
  have HRG := Lib.hid (fun (A : Option Addr) (c : Nat) (W : World) (hR : Rd W W.heap.size A (partL l s).length (partL l s)) => rngI_any A _ c W.heap.size (partL l s) W hR (Nat.le_refl _) hpl)
  have HE : Hid (rngL (partL l s) = patL l s) := rfl
  have hq7 : (patL l s).length ≤ 7 := by rw [← HE.out, rng_length]; exact hpl
  rw [HE.out] at HRG
  have HQ7 := Lib.hid (padR_length (patL l s) hq7)
  clear ht h0 hs hT hpl hq7 HE
  unfold agp at HPT HRG ⊢
  generalize partL l s = K at *
  generalize padR (patL l s) = Q at *
  generalize padR l = P at *
  rw [hW] at HA0
  go_enter Tryd.func44, Tryd.ntmps44
  go_wp2_with (refine load_ring rfl _ rfl w.heap.size P HP7.out rfl HA0 ?_)
  rw [← hW]
  clear hW
  refine HPT.out.mono ?_
  rintro e w1 ⟨v1, rfl, hr1, hb1⟩
  obtain ⟨A1, c1, rfl, _⟩ := hr1.2
  have HG1 := Lib.hid (HRG.out A1 c1 w1 hr1.1.rd.2)
  have hs1 := hb1.size
  have hs0 := HB0.out.2
  have HZ1 := Lib.hid (HZ0.out.below hb1 HZ0.out.lt)
  have HB1 := Lib.hid (HB0.out.1.trans (hb1.mono (by omega)))
  clear hr1 hb1 HPT HRG HZ0 HA0 HB0
  go_wp2_with fail
  refine HG1.out.mono ?_
  rintro e w2 ⟨rfl, hb2⟩
  have hs2 := hb2.size
  have HZ2 := Lib.hid (HZ1.out.below hb2 HZ1.out.lt)
  have HB2 := Lib.hid (HB1.out.trans (hb2.mono (by omega)))
  clear hb2 HB1 HZ1
  go_wp2_with (refine store_ring rfl _ _ rfl (w.heap.size + 1) zero7 Q rfl HQ7.out rfl rfl HZ2 ?_; intro w6 HB6 hg6 _)
  try simp only [Exit.inBlock, Exit.then]
  exact ret_ring rfl (w.heap.size + 1) Q HQ7.out rfl HB6 rfl ⟨rfl, HB2.out.grown hg6 (by omega) (by simp)⟩
end Go.Proofs.YtphffefkjbgibabDoor
