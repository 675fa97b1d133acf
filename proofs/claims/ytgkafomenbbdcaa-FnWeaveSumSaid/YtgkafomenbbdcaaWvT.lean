/- The model's check of a part of n points. -/
import Derived.Test.YtgkafomenbbdcaaWvR
namespace Go.Proofs.Ytgkafomenbbdcaa
open Go.ChangeShapes Go.WideShapes Go.ChangeAt Go.RowKit

theorem inQ (n a b : Int) (r : Bool) (h : (decide (a ≤ n) && decide (n ≤ b)) = r) (w : World) : Calls Try.prog 75 #[.int .i64 n, .int .i64 a, .int .i64 b] w fun e w' => e = .returned (.bool r) ∧ w' = w := by
  subst h
  exact flipW (in_any n a b w)

set_option maxRecDepth 10000 in
set_option maxHeartbeats 1000000 in
theorem l6wIn_no (A : Option Addr) (m c H : Nat) (l : List Int) (n : Int) (w : World) (h : Rd w H A m l) (hm : m ≤ 1048576) (hn : ¬ (3 ≤ n ∧ n ≤ 6)) :
    Calls Try.prog 98 #[.int .i64 n, .slice A m c] w fun e w' => e = .returned (.bool false) ∧ ∃ q, w' = w.drewN q := by
  have HL := Lib.hid h.len
  have HN := Lib.hid hn
  have HR := Lib.hid h
  clear h hn
  obtain ⟨N, hN⟩ : ∃ N, N = IntKind.i64.wrap (n - 1) := ⟨_, rfl⟩
  have hN' : IntKind.i64.wrap (n - 1) = N := hN.symm
  clear hN
  go_enter Try.func98, Try.ntmps98
  go_wp2
  go_loopw [5, 6] (fun s i wr => ∃ k : Nat, k ≤ m ∧ i = .int .i64 k ∧ ∃ q : Int, s = .int .i64 q ∧ ∃ d, wr = w.drewN d) (fun _ i _ => m - (intOf i).toNat)
  case atStart => exact ⟨0, Nat.zero_le _, rfl, 0, rfl, 0, rfl⟩
  case round =>
    obtain ⟨k, hk, rfl, q, rfl, d, hd⟩ := hrel
    have HRW : Hid (Rd wr H A m l) := by rw [hd]; exact HR.out.drewN d
    have HD := Lib.hid hd
    clear hd
    by_cases hlt : k < m
    · obtain ⟨b, o, rfl, hbH, hcs⟩ := HRW.out.at_ (by omega)
      have hc := hcs k hlt
      have hc0 := hcs 0 (by omega)
      rw [Nat.add_zero] at hc0
      clear hcs
      generalize l.getD k 0 = x at hc
      generalize l.getD 0 0 = x0 at hc0
      cases h1 : (decide (0 ≤ x) && decide (x ≤ N)) with
      | false =>
        have HI := Lib.hid (inQ x 0 N false h1)
        clear h1
        go_wp2
        go_quiet (first | (go_at_call 75; refine Calls.quiet_of_same (HI.out _)))
        go_wp2
        go_ret
        exact ⟨rfl, d + nq, by rw [HD.out, World.drewN_drewN]⟩
      | true =>
        have HI := Lib.hid (inQ x 0 N true h1)
        have hx0 : 0 ≤ x := by simp at h1; exact h1.1
        clear h1
        cases h2 : (bits BinOp.and IntKind.i64 (q / 2 ^ min x.toNat 64) 1 == 1) with
        | true =>
          go_wp2
          go_quiet (first | (go_at_call 75; refine Calls.quiet_of_same (HI.out _)))
          go_wp2
          go_ret
          exact ⟨rfl, d + nq, by rw [HD.out, World.drewN_drewN]⟩
        | false =>
          by_cases h3 : x < x0
          · go_wp2
            go_quiet (first | (go_at_call 75; refine Calls.quiet_of_same (HI.out _)))
            go_wp2
            go_ret
            exact ⟨rfl, d + nq, by rw [HD.out, World.drewN_drewN]⟩
          · go_wp2
            go_quiet (first | (go_at_call 75; refine Calls.quiet_of_same (HI.out _)))
            go_wp2
            go_roundw
            case rel => exact ⟨k + 1, by omega, by go_num, _, rfl, d + nq, by rw [HD.out, World.drewN_drewN]⟩
            case measure => simp [intOf]; omega
    · obtain rfl : k = m := by omega
      have HI := Lib.hid (inQ n 3 6 false (by simp; have := HN.out; omega))
      go_wp2_with (go_at_call 75; refine (HI.out _).mono ?_; rintro e w' ⟨rfl, rfl⟩)
      go_ret
      exact ⟨rfl, d, HD.out⟩

/-- What the loop has seen of a list: no point yet that tells it is no part. -/
def PrtTo (n : Int) (l : List Int) (k : Nat) : Prop := PtsTo n l k ∧ ∀ j, j < k → l.getD 0 0 ≤ l.getD j 0
theorem prtTo_step (n : Int) (l : List Int) (k : Nat) (hkl : k < l.length) (h : PrtTo n l k) :
    (0 ≤ l.getD k 0 → l.getD k 0 < n → l.getD k 0 ∉ l.take k → l.getD 0 0 ≤ l.getD k 0 → PrtTo n l (k + 1)) ∧ (¬ (0 ≤ l.getD k 0 ∧ l.getD k 0 < n ∧ l.getD k 0 ∉ l.take k ∧ l.getD 0 0 ≤ l.getD k 0) → ¬ Prt n l) := by
  have hp := pts_step n l k hkl h.1
  refine ⟨fun a b c d => ⟨hp.1 ⟨a, b, c⟩, fun j hj => ?_⟩, fun hx ht => ?_⟩
  · rcases Nat.lt_succ_iff_lt_or_eq.1 hj with hj | rfl
    · exact h.2 j hj
    · exact d
  · have hd := ht.2.2.2 _ (getD_mem l k hkl)
    exact hp.2 (fun a => hx ⟨a.1, a.2.1, a.2.2, hd⟩) ht.2.2.1
theorem prtTo_end (n : Int) (l : List Int) (h36 : 3 ≤ n ∧ n ≤ 6) (h0 : 0 < l.length) (h : PrtTo n l l.length) : Prt n l := by
  refine ⟨h36, by intro e; rw [e] at h0; simp at h0, pts_end n l h.1, fun x hx => ?_⟩
  obtain ⟨j, hj, rfl⟩ := List.getElem_of_mem hx
  have := h.2 j hj
  simpa [List.getD, hj] using this
theorem take_bd {n : Int} {l : List Int} {k : Nat} (h6 : n ≤ 6) (h : PrtTo n l k) (hk : k ≤ l.length) : ∀ x ∈ l.take k, 0 ≤ x ∧ x < 7 := fun x hx => by
  obtain ⟨j, hj, rfl⟩ := List.getElem_of_mem hx
  have hj' : j < k := by rw [List.length_take] at hj; omega
  have := h.1.1 j hj'
  rw [List.getElem_take]
  simp [List.getD, show j < l.length by omega] at this
  omega

set_option maxRecDepth 10000 in
set_option maxHeartbeats 1000000 in
theorem l6wIn_yes (A : Option Addr) (m c H : Nat) (l : List Int) (n : Int) (w : World) (h : Rd w H A m l) (hm : m ≤ 1048576) (hn : 3 ≤ n ∧ n ≤ 6) :
    Calls Try.prog 98 #[.int .i64 n, .slice A m c] w fun e w' => e = .returned (.bool (prt n l)) ∧ ∃ q, w' = w.drewN q := by
  have HL := Lib.hid h.len
  have HN := Lib.hid hn
  have HR := Lib.hid h
  obtain ⟨r, hr⟩ : ∃ r, r = prt n l := ⟨_, rfl⟩
  rw [← hr]
  have HRR := Lib.hid hr
  clear h hr
  have hn3 := hn.1
  have hn6 := hn.2
  clear hn
  go_enter Try.func98, Try.ntmps98
  go_wp2
  go_loopw [5, 6] (fun s i wr => ∃ k : Nat, k ≤ m ∧ i = .int .i64 k ∧ ∃ q : Int, s = .int .i64 q ∧ Hid (q = maskI (l.take k)) ∧ Hid (PrtTo n l k) ∧ ∃ d, wr = w.drewN d) (fun _ i _ => m - (intOf i).toNat)
  case atStart => exact ⟨0, Nat.zero_le _, rfl, 0, rfl, rfl, ⟨⟨fun j hj => absurd hj (by omega), by simp⟩, fun j hj => absurd hj (by omega)⟩, 0, rfl⟩
  case round =>
    obtain ⟨k, hk, rfl, q, rfl, hq, hto, d, hd⟩ := hrel
    have HRW : Hid (Rd wr H A m l) := by rw [hd]; exact HR.out.drewN d
    have HD := Lib.hid hd
    clear hd
    by_cases hlt : k < m
    · have hkl : k < l.length := by rw [HL.out]; exact hlt
      obtain ⟨b, o, rfl, hbH, hcs⟩ := HRW.out.at_ (by omega)
      have hc := hcs k hlt
      have hc0 := hcs 0 (by omega)
      rw [Nat.add_zero] at hc0
      have hst := prtTo_step n l k hkl hto.out
      have hbd := take_bd hn6 hto.out (Nat.le_of_lt hkl)
      have hmk := (mask_eq (l.take k) hbd 0 (by omega)).1
      have hmlt := mask_lt (l.take k) hbd
      have hq' : q = (maskN (l.take k) : Int) := hq.out.trans hmk
      subst hq'
      have T3 : Hid (bits BinOp.or IntKind.i64 (maskN (l.take k) : Int) (wrap64 (2 ^ min (l.getD k 0).toNat 64)) = maskI (l.take (k + 1))) := by
        have := maskI_step l k hkl
        rw [← hq.out] at this
        exact this.symm
      have hin : 0 ≤ l.getD k 0 → hasN (maskN (l.take k)) (l.getD k 0) = decide (l.getD k 0 ∈ l.take k) := mask_has _ (fun x hx => (hbd x hx).1) _
      clear hcs hq hmk hbd hto
      generalize maskN (l.take k) = s at *
      generalize l.getD k 0 = x at *
      generalize l.getD 0 0 = x0 at *
      have T1 := Lib.hid hst.1
      have T2 := Lib.hid hst.2
      have HIN := Lib.hid hin
      clear hst hin hkl
      by_cases h1 : 0 ≤ x ∧ x ≤ n - 1
      · have HI := Lib.hid (inQ x 0 (n - 1) true (by simp; omega))
        have hx0 := h1.1
        have hx6 : x < 7 := by omega
        have hmin : min x.toNat 64 = x.toNat := by omega
        have hbit := (shr_bit s x hmlt).1
        rw [HIN.out hx0] at hbit
        clear hmlt
        by_cases hmem : x ∈ l.take k
        · have TF := Lib.hid (prt_no (T2.out (fun hh => hh.2.2.1 hmem)))
          rw [decide_eq_true hmem] at hbit
          clear T1 T2 T3 hmem HIN
          go_wp2
          go_quiet (first | (go_at_call 75; refine Calls.quiet_of_same (HI.out _)))
          go_wp2
          go_ret
          exact ⟨by rw [HRR.out, TF.out]; rfl, d + nq, by rw [HD.out, World.drewN_drewN]⟩
        · rw [decide_eq_false hmem] at hbit
          by_cases h3 : x < x0
          · have TF := Lib.hid (prt_no (T2.out (fun hh => by omega)))
            clear T1 T2 T3 hmem HIN
            go_wp2
            go_quiet (first | (go_at_call 75; refine Calls.quiet_of_same (HI.out _)))
            go_wp2
            go_ret
            exact ⟨by rw [HRR.out, TF.out]; rfl, d + nq, by rw [HD.out, World.drewN_drewN]⟩
          · have TT := Lib.hid (T1.out hx0 (by omega) hmem (by omega))
            clear T1 T2 hmem HIN
            rw [hmin] at T3
            go_wp2
            go_quiet (first | (go_at_call 75; refine Calls.quiet_of_same (HI.out _)))
            go_wp2
            go_roundw
            case rel => exact ⟨k + 1, by omega, by go_num, _, rfl, T3, TT, d + nq, by rw [HD.out, World.drewN_drewN]⟩
            case measure => simp [intOf]; omega
      · have HI := Lib.hid (inQ x 0 (n - 1) false (by simp; omega))
        have TF := Lib.hid (prt_no (T2.out (fun hh => by omega)))
        clear h1 T1 T2 T3 HIN
        go_wp2
        go_quiet (first | (go_at_call 75; refine Calls.quiet_of_same (HI.out _)))
        go_wp2
        go_ret
        exact ⟨by rw [HRR.out, TF.out]; rfl, d + nq, by rw [HD.out, World.drewN_drewN]⟩
    · obtain rfl : k = m := by omega
      have HI := Lib.hid (inQ n 3 6 true (by simp; omega))
      by_cases h0 : 0 < k
      · have TT := Lib.hid (prt_yes (prtTo_end n l ⟨hn3, hn6⟩ (by rw [HL.out]; exact h0) (by rw [HL.out]; exact hto.out)))
        go_wp2_with (go_at_call 75; refine (HI.out _).mono ?_; rintro e w' ⟨rfl, rfl⟩)
        go_ret
        exact ⟨by rw [HRR.out, TT.out]; rfl, d, HD.out⟩
      · have TF := Lib.hid (prt_no (fun hh : Prt n l => hh.2.1 (List.eq_nil_of_length_eq_zero (by rw [HL.out]; omega))))
        go_wp2_with (go_at_call 75; refine (HI.out _).mono ?_; rintro e w' ⟨rfl, rfl⟩)
        go_ret
        exact ⟨by rw [HRR.out, TF.out]; rfl, d, HD.out⟩

theorem l6wIn_any (A : Option Addr) (m c H : Nat) (l : List Int) (n : Int) (w : World) (h : Rd w H A m l) (hm : m ≤ 1048576) :
    Calls Try.prog 98 #[.int .i64 n, .slice A m c] w fun e w' => e = .returned (.bool (prt n l)) ∧ ∃ q, w' = w.drewN q := by
  by_cases hn : 3 ≤ n ∧ n ≤ 6
  · exact l6wIn_yes A m c H l n w h hm hn
  · rw [prt_no (fun hh : Prt n l => hn hh.1)]
    exact l6wIn_no A m c H l n w h hm hn
end Go.Proofs.Ytgkafomenbbdcaa
