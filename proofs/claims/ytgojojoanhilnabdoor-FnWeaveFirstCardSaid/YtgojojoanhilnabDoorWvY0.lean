/- The model's check of two parts that share all points; WeaveSum of the model and of the program. -/
import Derived.Test.YtgojojoanhilnabDoorWvG
import Derived.Test.YtgojojoanhilnabDoorWA
namespace Go.Proofs.YtgojojoanhilnabDoor
open Go.ChangeShapes Go.WideShapes Go.ChangeAt Go.RowKit


set_option maxRecDepth 10000 in
set_option maxHeartbeats 2000000 in
theorem two6_any (Ap Aq : Option Addr) (np cp nq cq H : Nat) (n : Int) (p q : List Int) (w : World) (hp : Rd w H Ap np p) (hq : Rd w H Aq nq q) (hpn : np ≤ 1048576) (hqn : nq ≤ 1048576) :
    Calls Tryd.prog 32 #[.int .i64 n, .slice Ap np cp, .slice Aq nq cq] w fun e w' => e = .returned (.bool (wov n p q)) ∧ ∃ k, w' = w.drewN k := by
  have HPL := Lib.hid hp.len
  have HQL := Lib.hid hq.len
  have HIP := Lib.hid (fun k => l6wIn_any Ap np cp H p n (w.drewN k) (hp.drewN k) hpn)
  have HIQ := Lib.hid (fun k => l6wIn_any Aq nq cq H q n (w.drewN k) (hq.drewN k) hqn)
  obtain ⟨nr, rfl⟩ : ∃ nr, nr = nq := ⟨nq, rfl⟩
  by_cases h1 : Prt n p
  · rw [prt_yes h1] at HIP
    by_cases h2 : Prt n q
    · rw [prt_yes h2] at HIQ
      have hm := wov_model h1 h2
      have hb1 := h1.bd
      have hb2 := h2.bd
      have hl1 := h1.len
      have hl2 := h2.len
      have HSP := Lib.hid (fun k => flipW (setS_any Ap np cp H p (w.drewN k) (hp.drewN k) hpn hb1))
      have HSQ := Lib.hid (fun k => flipW (setS_any Aq nr cq H q (w.drewN k) (hq.drewN k) hqn hb2))
      have hm1 := mask_lt p hb1
      have hm2 := mask_lt q hb2
      have h36 := h1.1
      have hor := or_small (maskN p) (maskN q) hm1 hm2
      rw [HPL.out, HQL.out] at hm
      rw [HPL.out] at hl1
      rw [HQL.out] at hl2
      obtain ⟨r, hr⟩ : ∃ r, r = wov n p q := ⟨_, rfl⟩
      rw [← hr]
      have hr' : Hid (r = decide ((np : Int) + nr = n ∧ maskN p ||| maskN q = 2 ^ n.toNat - 1)) := by
        rw [Hid, hr, wov, decide_eq_decide]; exact hm
      clear hp hq h1 h2 hm hb1 hb2 hr
      generalize maskN p = s at *
      generalize maskN q = t at *
      by_cases hs : (np : Int) + nr = n
      · have e1 : (((np : Int) + (nr : Int)) == n) = true := by simpa using hs
        have hw1 : IntKind.i64.wrap ((np : Int) + (nr : Int)) = (np : Int) + nr := IntWalk.i64_in _ (by omega)
        by_cases ho : s ||| t = 2 ^ n.toNat - 1
        · have HRT : Hid (r = true) := by rw [Hid, hr'.out]; simpa using ⟨hs, ho⟩
          have e2 : (bits BinOp.or IntKind.i64 (s : Int) (t : Int) == ((2 ^ n.toNat - 1 : Nat) : Int)) = true := by
            rw [hor, ho]; simp
          clear hs hr' hor ho
          obtain rfl | rfl | rfl | rfl : n = 3 ∨ n = 4 ∨ n = 5 ∨ n = 6 := by omega
          · replace e2 : (bits BinOp.or IntKind.i64 (s : Int) (t : Int) == 7) = true := e2
            go_enter Tryd.func32, Tryd.ntmps32
            go_wp2
            go_quiet (first | (go_at_call_of 48 (Value.slice Ap np cp); refine Calls.quiet_of (HIP.out _)) | (go_at_call_of 48 (Value.slice Aq nr cq); refine Calls.quiet_of (HIQ.out _)) | (go_at_call_of 63 (Value.slice Ap np cp); refine Calls.quiet_of_same (HSP.out _)) | (go_at_call_of 63 (Value.slice Aq nr cq); refine Calls.quiet_of_same (HSQ.out _)))
            go_wp2
            go_ret
            exact ⟨by rw [HRT.out]; rfl, nq, rfl⟩
          · replace e2 : (bits BinOp.or IntKind.i64 (s : Int) (t : Int) == 15) = true := e2
            go_enter Tryd.func32, Tryd.ntmps32
            go_wp2
            go_quiet (first | (go_at_call_of 48 (Value.slice Ap np cp); refine Calls.quiet_of (HIP.out _)) | (go_at_call_of 48 (Value.slice Aq nr cq); refine Calls.quiet_of (HIQ.out _)) | (go_at_call_of 63 (Value.slice Ap np cp); refine Calls.quiet_of_same (HSP.out _)) | (go_at_call_of 63 (Value.slice Aq nr cq); refine Calls.quiet_of_same (HSQ.out _)))
            go_wp2
            go_ret
            exact ⟨by rw [HRT.out]; rfl, nq, rfl⟩
          · replace e2 : (bits BinOp.or IntKind.i64 (s : Int) (t : Int) == 31) = true := e2
            go_enter Tryd.func32, Tryd.ntmps32
            go_wp2
            go_quiet (first | (go_at_call_of 48 (Value.slice Ap np cp); refine Calls.quiet_of (HIP.out _)) | (go_at_call_of 48 (Value.slice Aq nr cq); refine Calls.quiet_of (HIQ.out _)) | (go_at_call_of 63 (Value.slice Ap np cp); refine Calls.quiet_of_same (HSP.out _)) | (go_at_call_of 63 (Value.slice Aq nr cq); refine Calls.quiet_of_same (HSQ.out _)))
            go_wp2
            go_ret
            exact ⟨by rw [HRT.out]; rfl, nq, rfl⟩
          · replace e2 : (bits BinOp.or IntKind.i64 (s : Int) (t : Int) == 63) = true := e2
            go_enter Tryd.func32, Tryd.ntmps32
            go_wp2
            go_quiet (first | (go_at_call_of 48 (Value.slice Ap np cp); refine Calls.quiet_of (HIP.out _)) | (go_at_call_of 48 (Value.slice Aq nr cq); refine Calls.quiet_of (HIQ.out _)) | (go_at_call_of 63 (Value.slice Ap np cp); refine Calls.quiet_of_same (HSP.out _)) | (go_at_call_of 63 (Value.slice Aq nr cq); refine Calls.quiet_of_same (HSQ.out _)))
            go_wp2
            go_ret
            exact ⟨by rw [HRT.out]; rfl, nq, rfl⟩
        · have HRF : Hid (r = false) := by rw [Hid, hr'.out]; simp [ho]
          have e2 : (bits BinOp.or IntKind.i64 (s : Int) (t : Int) == ((2 ^ n.toNat - 1 : Nat) : Int)) = false := by
            rw [hor]; simp only [beq_eq_false_iff_ne, ne_eq]; intro e; exact ho (by exact_mod_cast e)
          clear hs hr' hor ho
          obtain rfl | rfl | rfl | rfl : n = 3 ∨ n = 4 ∨ n = 5 ∨ n = 6 := by omega
          · replace e2 : (bits BinOp.or IntKind.i64 (s : Int) (t : Int) == 7) = false := e2
            go_enter Tryd.func32, Tryd.ntmps32
            go_wp2
            go_quiet (first | (go_at_call_of 48 (Value.slice Ap np cp); refine Calls.quiet_of (HIP.out _)) | (go_at_call_of 48 (Value.slice Aq nr cq); refine Calls.quiet_of (HIQ.out _)) | (go_at_call_of 63 (Value.slice Ap np cp); refine Calls.quiet_of_same (HSP.out _)) | (go_at_call_of 63 (Value.slice Aq nr cq); refine Calls.quiet_of_same (HSQ.out _)))
            go_wp2
            go_ret
            exact ⟨by rw [HRF.out]; rfl, nq, rfl⟩
          · replace e2 : (bits BinOp.or IntKind.i64 (s : Int) (t : Int) == 15) = false := e2
            go_enter Tryd.func32, Tryd.ntmps32
            go_wp2
            go_quiet (first | (go_at_call_of 48 (Value.slice Ap np cp); refine Calls.quiet_of (HIP.out _)) | (go_at_call_of 48 (Value.slice Aq nr cq); refine Calls.quiet_of (HIQ.out _)) | (go_at_call_of 63 (Value.slice Ap np cp); refine Calls.quiet_of_same (HSP.out _)) | (go_at_call_of 63 (Value.slice Aq nr cq); refine Calls.quiet_of_same (HSQ.out _)))
            go_wp2
            go_ret
            exact ⟨by rw [HRF.out]; rfl, nq, rfl⟩
          · replace e2 : (bits BinOp.or IntKind.i64 (s : Int) (t : Int) == 31) = false := e2
            go_enter Tryd.func32, Tryd.ntmps32
            go_wp2
            go_quiet (first | (go_at_call_of 48 (Value.slice Ap np cp); refine Calls.quiet_of (HIP.out _)) | (go_at_call_of 48 (Value.slice Aq nr cq); refine Calls.quiet_of (HIQ.out _)) | (go_at_call_of 63 (Value.slice Ap np cp); refine Calls.quiet_of_same (HSP.out _)) | (go_at_call_of 63 (Value.slice Aq nr cq); refine Calls.quiet_of_same (HSQ.out _)))
            go_wp2
            go_ret
            exact ⟨by rw [HRF.out]; rfl, nq, rfl⟩
          · replace e2 : (bits BinOp.or IntKind.i64 (s : Int) (t : Int) == 63) = false := e2
            go_enter Tryd.func32, Tryd.ntmps32
            go_wp2
            go_quiet (first | (go_at_call_of 48 (Value.slice Ap np cp); refine Calls.quiet_of (HIP.out _)) | (go_at_call_of 48 (Value.slice Aq nr cq); refine Calls.quiet_of (HIQ.out _)) | (go_at_call_of 63 (Value.slice Ap np cp); refine Calls.quiet_of_same (HSP.out _)) | (go_at_call_of 63 (Value.slice Aq nr cq); refine Calls.quiet_of_same (HSQ.out _)))
            go_wp2
            go_ret
            exact ⟨by rw [HRF.out]; rfl, nq, rfl⟩
      · have e1 : (((np : Int) + (nr : Int)) == n) = false := by simpa using hs
        have hw1 : IntKind.i64.wrap ((np : Int) + (nr : Int)) = (np : Int) + nr := IntWalk.i64_in _ (by omega)
        have HRF : Hid (r = false) := by rw [Hid, hr'.out]; simp [hs]
        clear hs hr' hor
        go_enter Tryd.func32, Tryd.ntmps32
        go_wp2
        go_quiet (first | (go_at_call_of 48 (Value.slice Ap np cp); refine Calls.quiet_of (HIP.out _)) | (go_at_call_of 48 (Value.slice Aq nr cq); refine Calls.quiet_of (HIQ.out _)))
        go_wp2
        go_ret
        exact ⟨by rw [HRF.out]; rfl, nq, rfl⟩
    · rw [prt_no h2] at HIQ
      have HRF := Lib.hid (wov_no (n := n) (p := p) (q := q) (fun h => h2 h.2.1))
      rw [HRF.out]
      clear hp hq h1 h2
      go_enter Tryd.func32, Tryd.ntmps32
      go_wp2
      go_quiet (first | (go_at_call_of 48 (Value.slice Ap np cp); refine Calls.quiet_of (HIP.out _)) | (go_at_call_of 48 (Value.slice Aq nr cq); refine Calls.quiet_of (HIQ.out _)))
      go_wp2
      go_ret
      exact ⟨rfl, nq, rfl⟩
  · rw [prt_no h1] at HIP
    have HRF := Lib.hid (wov_no (n := n) (p := p) (q := q) (fun h => h1 h.1))
    rw [HRF.out]
    clear hp hq h1
    go_enter Tryd.func32, Tryd.ntmps32
    go_wp2
    go_quiet (first | (go_at_call_of 48 (Value.slice Ap np cp); refine Calls.quiet_of (HIP.out _)))
    go_wp2
    go_ret
    exact ⟨rfl, nq, rfl⟩

/-- How many rings two woven parts are in, by factorials. -/
def wsmR (n : Int) (p q : List Int) : Int := if Wov n p q then facN (n - 1).toNat / (facN (p.length - 1) * facN (q.length - 1)) else 0
theorem wov_len {n : Int} {p q : List Int} (h : Wov n p q) : (p.length : Int) + q.length = n := ((wov_model h.1 h.2.1).1 h).1

set_option maxRecDepth 10000 in
set_option maxHeartbeats 4000000 in
theorem wsI_any (Ap : Option Addr) (np cp : Nat) (Aq : Option Addr) (nq cq H : Nat) (n : Int) (p q : List Int) (w : World) (hp : Rd w H Ap np p) (hq : Rd w H Aq nq q) (hH : H ≤ w.heap.size) (hpn : np ≤ 1048576) (hqn : nq ≤ 1048576) (hpc : np ≤ cp) (hpm : cp ≤ 9223372036854775807) (hqc : nq ≤ cq) (hqm : cq ≤ 9223372036854775807) :
    Calls Tryd.prog 15 #[.int .i64 n, .slice Ap np cp, .slice Aq nq cq] w fun e w' => e = .returned (.tuple #[.int .i64 (wsmR n p q), .bool (wov n p q)]) ∧ Below w.heap.size w w' := by
  have HPL := hp.len
  have HQL := hq.len
  have HC := Lib.hid (readWoven_any Ap Aq np cp nq cq H n p q w hp hq hH hpn hqn hpc hpm hqc hqm)
  by_cases h : Wov n p q
  · have hl := wov_len h
    have h1 := h.1.len
    have h2 := h.2.1.len
    have h36 := h.1.1
    rw [wov_yes h] at HC ⊢
    rw [wsmR, if_pos h]
    rw [HPL, HQL] at hl ⊢
    rw [HPL] at h1
    rw [HQL] at h2
    have HF := Lib.hid (fun (x : Int) (h0 : 0 ≤ x) (h6 : x ≤ 6) W => facI_any x W h0 h6)
    have f0 : facN 0 = 1 := rfl
    have f1 : facN 1 = 1 := rfl
    have f2 : facN 2 = 2 := rfl
    have f3 : facN 3 = 6 := rfl
    have f4 : facN 4 = 24 := rfl
    have f5 : facN 5 = 120 := rfl
    clear hp hq h HPL HQL
    obtain rfl | rfl | rfl | rfl : n = 3 ∨ n = 4 ∨ n = 5 ∨ n = 6 := by omega
    all_goals
      obtain rfl | rfl | rfl | rfl | rfl : np = 1 ∨ np = 2 ∨ np = 3 ∨ np = 4 ∨ np = 5 := by omega
    all_goals first
      | (exfalso; omega)
      | (obtain rfl | rfl | rfl | rfl | rfl : nq = 1 ∨ nq = 2 ∨ nq = 3 ∨ nq = 4 ∨ nq = 5 := by omega
         all_goals first
           | (exfalso; omega)
           | (go_enter Tryd.func15, Tryd.ntmps15
              go_wp2_with (first
                | (go_at_call 31; refine HC.out.mono ?_; rintro e w1 ⟨v1, rfl, hp1, hb1⟩; obtain ⟨A1, c1, ev, _⟩ := hp1.slice; subst ev; clear hp1)
                | (go_at_call 33; refine (HF.out _ (by omega) (by omega) _).mono ?_; rintro e w' ⟨rfl, rfl⟩))
              go_ret2
              exact ⟨rfl, hb1⟩))
  · rw [wov_no h] at HC ⊢
    rw [wsmR, if_neg h]
    clear hp hq h HPL HQL
    go_enter Tryd.func15, Tryd.ntmps15
    go_wp2_with (first
      | (go_at_call 31; refine HC.out.mono ?_; rintro e w1 ⟨v1, rfl, hp1, hb1⟩; obtain ⟨A1, c1, ev, _⟩ := hp1.slice; subst ev; clear hp1))
    go_ret2
    exact ⟨rfl, hb1⟩
end Go.Proofs.YtgojojoanhilnabDoor
