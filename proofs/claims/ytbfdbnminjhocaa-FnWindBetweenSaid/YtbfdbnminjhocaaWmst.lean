/- WindMost of the model and of the program. -/
import Derived.Test.YtbfdbnminjhocaaWcnt
namespace Go.Proofs.Ytbfdbnminjhocaa
open Go.ChangeShapes Go.WideShapes Go.ChangeAt Go.RowKit

def wmB (l : List Int) (k : Int) : Bool := ringB l && (decide (0 ≤ k) && decide (k ≤ (l.length : Int) - 1))
/-- How many of f 0 .. f (K - 1) are k. -/
def cntI (f : Nat → Int) (k : Int) : Nat → Int
  | 0 => 0
  | K + 1 => cntI f k K + if f K = k then 1 else 0
theorem cntI_bd (f : Nat → Int) (k : Int) : ∀ K, 0 ≤ cntI f k K ∧ cntI f k K ≤ K
  | 0 => by simp [cntI]
  | K + 1 => by
    have := cntI_bd f k K
    rw [cntI]
    split <;> omega
theorem cntI_hist (f : Nat → Int) (n k : Nat) (hk : k < n) : ∀ K, (histL f n K).getD k 0 = cntI f k K
  | 0 => by rw [histL_zero]; simp [cntI, List.getD, hk]
  | K + 1 => by
    have ih := cntI_hist f n k hk K
    rw [histL_get f n _ k hk] at ih ⊢
    rw [List.range_succ, List.countP_append, List.countP_singleton, cntI, ← ih]
    by_cases h : f K = (k : Int)
    · simp [h]
    · simp [h]
def wmR (l : List Int) (k : Int) : Int := if wmB l k then cntI (fun j : Nat => windL (byL l.length (j : Int)) l) k (facM l.length) else 0
theorem wm_yes {l : List Int} {k : Int} (h : wmB l k = true) : Ring l ∧ 0 ≤ k ∧ k ≤ (l.length : Int) - 1 := by
  simp only [wmB, Bool.and_eq_true, decide_eq_true_eq] at h
  exact ⟨by simpa [ringB] using h.1, h.2.1, h.2.2⟩

set_option maxRecDepth 10000 in
set_option maxHeartbeats 2000000 in
theorem wmS_any (A : Option Addr) (n c H : Nat) (l : List Int) (k0 : Int) (w : World) (h : Rd w H A n l) (hH : H ≤ w.heap.size) (hn : n ≤ 1048576) :
    Calls Try.prog 39 #[.slice A n c, .int .i64 k0] w fun e w' => e = .returned (.tuple #[.int .i64 (wmR l k0), .bool (wmB l k0)]) ∧ Below w.heap.size w w' := by
  have HT := Lib.hid (ringS_any A n c H l w h hn)
  have HL := Lib.hid h.len
  by_cases hr : Ring l
  rotate_left
  · have e : wmB l k0 = false := by rw [wmB, ring_no hr, Bool.false_and]
    rw [wmR, e, if_neg (by simp)]
    rw [ring_no hr] at HT
    clear h hr e
    go_enter Try.func39, Try.ntmps39
    go_wp2_with (go_at_call 53; refine HT.out.mono ?_; rintro e w' ⟨rfl, rfl⟩)
    go_ret2
    exact ⟨rfl, Below.refl _ _⟩
  have HI := Lib.hid (in_any k0 0 ((n : Int) - 1) w)
  have hw0 : IntKind.i64.wrap ((n : Int) - 1) = (n : Int) - 1 := IntWalk.i64_in _ (by omega)
  have e0 : (decide (0 ≤ k0) && decide (k0 ≤ (n : Int) - 1)) = wmB l k0 := by rw [wmB, ring_yes hr, Bool.true_and, HL.out]
  rw [e0] at HI
  clear e0
  rw [ring_yes hr] at HT
  by_cases hk : wmB l k0 = true
  rotate_left
  · have e : wmB l k0 = false := by simpa using hk
    rw [wmR, e, if_neg (by simp)]
    rw [e] at HI
    clear h hr e hk
    go_enter Try.func39, Try.ntmps39
    go_wp2_with (first
      | (go_at_call 53; refine HT.out.mono ?_; rintro e w' ⟨rfl, rfl⟩)
      | (go_at_call 69; refine HI.out.mono ?_; rintro e w' ⟨rfl, rfl⟩))
    go_ret2
    exact ⟨rfl, Below.refl _ _⟩
  obtain ⟨_, hk0, hk1⟩ := wm_yes hk
  rw [wmR, if_pos hk, hk]
  rw [hk] at HI
  have h3 : 3 ≤ n := by rw [← HL.out]; exact hr.1.1
  have h7 : n ≤ 7 := by rw [← HL.out]; exact hr.1.2.1
  rw [HL.out]
  obtain ⟨hf1, hf2, hf3, hf4⟩ := facM_eq7 n h3 h7
  have HFM := Lib.hid hf1
  obtain ⟨N, hN⟩ : ∃ N, N = facM n := ⟨_, rfl⟩
  rw [← hN] at HFM hf2 hf3 ⊢
  have HFACT := Lib.hid (fun W => facS_nat (n - 1) ((n : Int) - 1) W (by omega) (by omega))
  rw [← HFM.out] at HFACT
  have HBY := Lib.hid (fun (k : Nat) (hk : k < N) W => byS_any n (k : Int) W h3 h7 (by omega) (by have := HFM.out; omega))
  have HLN := Lib.hid (fun k : Nat => byL_length n (k : Int))
  have HWD : ∀ (k : Nat) (_ : k < N) A' c' H' V (_ : Rd V H' A' n (byL n (k : Int))) (_ : Rd V H' A n l) (_ : H' ≤ V.heap.size), Calls Try.prog 81 #[.slice A' n c', .slice A n c] V fun e w' => e = .returned (.int .i64 (windL (byL n (k : Int)) l)) ∧ Below V.heap.size V w' := fun k hk A' c' H' V hV hl hH' => windS_any A' n c' A n c H' (byL n (k : Int)) l V hV hl hH' (by omega) h7 (by omega) h7 (byL_w2 n k l h3 h7 (by omega) hr.1 HL.out).mem
  obtain ⟨f, hf⟩ : ∃ f : Nat → Int, f = fun j : Nat => windL (byL n (j : Int)) l := ⟨_, rfl⟩
  have HWD' : Hid (∀ (k : Nat) (_ : k < N) A' c' H' V (_ : Rd V H' A' n (byL n (k : Int))) (_ : Rd V H' A n l) (_ : H' ≤ V.heap.size), Calls Try.prog 81 #[.slice A' n c', .slice A n c] V fun e w' => e = .returned (.int .i64 (f k)) ∧ Below V.heap.size V w') := by rw [hf]; exact HWD
  rw [← hf]
  have HR := Lib.hid (fun V (hV : Below w.heap.size w V) => h.below (hV.mono hH))
  clear hf HWD hf1 hf4 hN h hr hk
  go_enter Try.func39, Try.ntmps39
  go_wp2_with (first
    | (go_at_call 53; refine HT.out.mono ?_; rintro e w' ⟨rfl, rfl⟩)
    | (go_at_call 69; refine HI.out.mono ?_; rintro e w' ⟨rfl, rfl⟩))
  generalize hB : w.heap.size = B at *
  have HB := Lib.hid hB
  clear hB
  go_loopw [6, 7] (fun s i wr => ∃ k : Nat, k ≤ N ∧ s = .int .i64 (cntI f k0 k) ∧ i = .int .i64 k ∧ Hid (Below B w wr)) (fun _ i _ => N - (intOf i).toNat)
  case atStart => exact ⟨0, Nat.zero_le _, rfl, rfl, by rw [← HB.out]; exact Below.refl _ _⟩
  case round =>
    obtain ⟨k, hk, rfl, rfl, hbl⟩ := hrel
    have hsB : B ≤ wr.heap.size := by rw [← HB.out]; exact hbl.out.size
    go_wp2_with fail
    refine (HFACT.out _).mono ?_
    rintro e w' ⟨rfl, rfl⟩
    by_cases hlt : k < N
    · have HBK := Lib.hid (HBY.out k hlt)
      have HWK := Lib.hid (HWD'.out k hlt)
      have hcb := cntI_bd f k0 k
      have HCS : Hid (cntI f k0 (k + 1) = cntI f k0 k + if f k = k0 then 1 else 0) := rfl
      go_wp2_with fail
      refine (HBK.out _).mono ?_
      rintro e w2 ⟨v2, rfl, ho2, hb2⟩
      obtain ⟨A2, c2, rfl⟩ := ho2.slice
      rw [HLN.out]
      have hrd : Rd w2 w2.heap.size A2 n (byL n (k : Int)) := by have := ho2.rd.2; rw [HLN.out] at this; exact this
      have HB2 := Lib.hid (hbl.out.trans (hb2.mono hsB))
      have hs2 : B ≤ w2.heap.size := by have := hb2.size; omega
      have HW1 := Lib.hid (HWK.out A2 c2 w2.heap.size w2 hrd ((HR.out w2 HB2.out).more (by omega)) (Nat.le_refl _))
      clear ho2 hb2 hrd HWK hbl
      go_wp2_with fail
      refine HW1.out.mono ?_
      rintro e w3 ⟨rfl, hb3⟩
      have HB3 := Lib.hid (HB2.out.trans (hb3.mono hs2))
      clear hb3 HB2 HW1
      generalize cntI f k0 k = s at *
      generalize f k = r at *
      by_cases hrk : r = k0
      · have hb : (r == k0) = true := by simpa using hrk
        have HS : Hid (cntI f k0 (k + 1) = s + 1) := by rw [Hid, HCS.out, if_pos hrk]
        clear hrk HCS
        go_wp2
        go_roundw
        case rel => exact ⟨k + 1, by omega, by rw [HS.out], by go_num, HB3⟩
        case measure => simp [intOf]; omega
      · have hb : (r == k0) = false := by simpa using hrk
        have HS : Hid (cntI f k0 (k + 1) = s) := by rw [Hid, HCS.out, if_neg hrk]; omega
        clear hrk HCS
        go_wp2
        go_roundw
        case rel => exact ⟨k + 1, by omega, by rw [HS.out], by go_num, HB3⟩
        case measure => simp [intOf]; omega
    · obtain rfl : k = N := by omega
      go_wp2
      go_ret2
      exact ⟨rfl, by rw [HB.out]; exact hbl.out⟩

attribute [local go_sem ↓] ldR_fold stR_fold in
set_option maxRecDepth 10000 in
set_option maxHeartbeats 2000000 in
theorem wmI_any (A : Option Addr) (n c H : Nat) (l : List Int) (k0 : Int) (w : World) (h : Rd w H A n l) (hH : H ≤ w.heap.size) (hn : n ≤ 1048576) (hnc : n ≤ c) (hcm : c ≤ 9223372036854775807) :
    Calls Try.prog 38 #[.slice A n c, .int .i64 k0] w fun e w' => e = .returned (.tuple #[.int .i64 (wmR l k0), .bool (wmB l k0)]) ∧ Below w.heap.size w w' := by
  have HR := Lib.hid (readR_any A n c H l w h hH hn hnc hcm)
  have h70 := ringP_length l
  have HL := Lib.hid h.len
  clear h
  by_cases hr : Ring l
  rotate_left
  · have e : wmB l k0 = false := by rw [wmB, ring_no hr, Bool.false_and]
    rw [wmR, e, if_neg (by simp)]
    rw [ring_no hr] at HR
    generalize ringP l = P at *
    clear hr e
    go_enter Try.func38, Try.ntmps38
    go_wp2_with fail
    refine HR.out.mono ?_
    rintro e W1 ⟨rfl, hb1⟩
    obtain ⟨W3, r3, hx3, hg3, hs3⟩ := stR_run (Q := P) (new_ring W1) rfl h70
    have HB : Hid (Below w.heap.size w W3) := (hb1.alloc hb1.size _).grown hg3 (by have := hb1.size; simp; omega) (by have := hb1.size; simp; omega)
    clear hb1 hg3 hx3 hs3
    go_wp2_with fail
    go_ret2
    exact ⟨rfl, HB.out⟩
  rw [ring_yes hr] at HR
  by_cases hk : wmB l k0 = true
  rotate_left
  · have e : wmB l k0 = false := by simpa using hk
    have hk' : ¬ (0 ≤ k0 ∧ k0 ≤ (n : Int) - 1) := by
      rintro ⟨h1, h2⟩
      apply hk
      rw [wmB, ring_yes hr, HL.out]
      simp [h1, h2]
    rw [wmR, e, if_neg (by simp)]
    generalize ringP l = P at *
    clear hr e hk
    by_cases hneg : k0 < 0
    · go_enter Try.func38, Try.ntmps38
      go_wp2_with fail
      refine HR.out.mono ?_
      rintro e W1 ⟨rfl, hb1⟩
      obtain ⟨W3, r3, hx3, hg3, hs3⟩ := stR_run (Q := P) (new_ring W1) rfl h70
      have HB : Hid (Below w.heap.size w W3) := (hb1.alloc hb1.size _).grown hg3 (by have := hb1.size; simp; omega) (by have := hb1.size; simp; omega)
      clear hb1 hg3 hx3 hs3
      go_wp2_with fail
      go_ret2
      exact ⟨rfl, HB.out⟩
    · have hge : (n : Int) ≤ k0 := by omega
      go_enter Try.func38, Try.ntmps38
      go_wp2_with fail
      refine HR.out.mono ?_
      rintro e W1 ⟨rfl, hb1⟩
      obtain ⟨W3, r3, hx3, hg3, hs3⟩ := stR_run (Q := P) (new_ring W1) rfl h70
      have HB : Hid (Below w.heap.size w W3) := (hb1.alloc hb1.size _).grown hg3 (by have := hb1.size; simp; omega) (by have := hb1.size; simp; omega)
      clear hb1 hg3 hx3 hs3
      go_wp2_with fail
      go_ret2
      exact ⟨rfl, HB.out⟩
  obtain ⟨_, hk0, hk1⟩ := wm_yes hk
  have h3 : 3 ≤ n := by rw [← HL.out]; exact hr.1.1
  have h7 : n ≤ 7 := by rw [← HL.out]; exact hr.1.2.1
  rw [HL.out] at hk1
  have HTC := Lib.hid (fun W => tcI_any n l W h3 h7 hr.1 HL.out)
  rw [ring_list hr] at HR h70
  rw [wmR, if_pos hk, hk, HL.out]
  obtain ⟨m, rfl⟩ : ∃ m : Nat, k0 = (m : Int) := ⟨k0.toNat, by omega⟩
  have hmn : m < n := by omega
  have HCH := Lib.hid (cntI_hist (fun j : Nat => windL (byL n (j : Int)) l) n m hmn (facM n))
  have HHL := Lib.hid (histL_length (fun j : Nat => windL (byL n (j : Int)) l) n (facM n))
  rw [← HCH.out]
  unfold agp at HTC
  generalize histL (fun j : Nat => windL (byL n (j : Int)) l) n (facM n) = C at *
  clear hr hk HCH hk0 hk1
  generalize padR l = P at *
  go_enter Try.func38, Try.ntmps38
  go_wp2_with fail
  refine HR.out.mono ?_
  rintro e W1 ⟨rfl, hb1⟩
  obtain ⟨W3, r3, hx3, hg3, hs3⟩ := stR_run (Q := P) (new_ring W1) rfl h70
  have l3 := ldR_run hx3 h70
  have HB : Hid (Below w.heap.size w W3) := (hb1.alloc hb1.size _).grown hg3 (by have := hb1.size; simp; omega) (by have := hb1.size; simp; omega)
  clear hb1 hg3 hx3 hs3
  go_wp2_with fail
  refine (HTC.out _).mono ?_
  rintro e w4 ⟨v, rfl, ho, hb4⟩
  obtain ⟨g, cap, rfl, hgB, hgs, hnc', hcm', hcs⟩ := ownHead ho (by rw [HHL.out]; omega)
  rw [HHL.out] at hnc' hcs ⊢
  have hc := hcs m hmn
  have HB4 := Lib.hid (HB.out.trans (hb4.mono HB.out.size))
  clear ho hb4 hcs r3 l3 HB
  go_wp2
  go_ret2
  exact ⟨rfl, HB4.out⟩
end Go.Proofs.Ytbfdbnminjhocaa
