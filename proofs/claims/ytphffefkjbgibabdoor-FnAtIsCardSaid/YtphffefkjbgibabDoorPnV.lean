/- Where a ring has a pattern: the model. -/
import Derived.Test.YtphffefkjbgibabDoorPnU
import Derived.Test.YtphffefkjbgibabDoorPnC
import Derived.Test.YtphffefkjbgibabDoorPR
namespace Go.Proofs.YtphffefkjbgibabDoor
open Go.ChangeShapes Go.WideShapes Go.ChangeAt Go.RowKit

def pbR (l p : List Int) : Int := if Two8 l p then (mnyN l (backL p) : Int) else 0
theorem pow_cases (n : Nat) (h3 : 3 ≤ n) (h7 : n ≤ 7) : (n = 3 ∧ 2 ^ n = 8) ∨ (n = 4 ∧ 2 ^ n = 16) ∨ (n = 5 ∧ 2 ^ n = 32) ∨ (n = 6 ∧ 2 ^ n = 64) ∨ (n = 7 ∧ 2 ^ n = 128) := by
  obtain rfl | rfl | rfl | rfl | rfl : n = 3 ∨ n = 4 ∨ n = 5 ∨ n = 6 ∨ n = 7 := by omega
  all_goals simp

set_option maxRecDepth 10000 in
set_option maxHeartbeats 2000000 in
theorem pfS_any (A0 : Option Addr) (n0 c0 : Nat) (A1 : Option Addr) (n1 c1 H : Nat) (l p : List Int) (w : World) (h0 : Rd w H A0 n0 l) (h1 : Rd w H A1 n1 p) (hH : H ≤ w.heap.size) (hn0 : n0 ≤ 1048576) (hn1 : n1 ≤ 1048576) :
    Calls Tryd.prog 19 #[.slice A0 n0 c0, .slice A1 n1 c1] w fun e w' => e = .returned (.tuple #[.int .i64 (pfR l p), .bool (pfB l p)]) ∧ Below w.heap.size w w' := by
  have HT := Lib.hid (two8S_any A0 n0 c0 A1 n1 c1 H l p w h0 h1 hn0 hn1)
  by_cases h2 : Two8 l p
  rotate_left
  · rw [two8_no h2] at HT
    have e1 : pfB l p = false := by rw [pfB, if_neg h2]
    rw [pfR, e1]
    clear h0 h1 h2 e1
    go_enter Tryd.func19, Tryd.ntmps19
    go_wp2_with (go_at_call 27; refine HT.out.mono ?_; rintro e w' ⟨rfl, rfl⟩)
    go_ret2
    exact ⟨rfl, Below.refl _ _⟩
  rw [two8_yes h2] at HT
  have ht := h2.1.1
  have hp := h2.2.1.1
  have L0 := h0.len
  have HC := Lib.hid (fun (W : World) (hW : Below w.heap.size w W) (s : Nat) (hs : s < 2 ^ l.length) => at8_any A0 n0 c0 A1 n1 c1 H l p s W (h0.below (hW.mono hH)) (h1.below (hW.mono hH)) (Nat.le_trans hH hW.size) ht hp hs)
  have HF := Lib.hid (fun (k : Nat) (hk : k < 2 ^ l.length) (hpre : ∀ j, j < k → atN l p j = false) (h : atN l p k = true) => firN_at hk hpre h)
  have HN := Lib.hid (firN_none (l := l) (p := p))
  have H0 : Hid (atN l p 0 = false) := at_zero l p (by have := hp.1; omega)
  have HB : Hid (pfB l p = decide (0 < mnyN l p)) := by rw [Hid, pfB, if_pos h2]
  have hn7 : n0 ≤ 7 := by rw [← L0]; exact ht.2.1
  have hsh : (2 : Int) ^ n0 = ((2 ^ n0 : Nat) : Int) := by simp
  have hpw : 2 ^ n0 ≤ 128 := Nat.pow_le_pow_right (n := 2) (by omega) hn7
  have h1p : 1 ≤ 2 ^ n0 := Nat.one_le_two_pow
  rw [L0] at HC HF HN
  generalize 2 ^ n0 = N at *
  have hs1 : wrap64 (2 ^ n0) = (N : Int) := by rw [hsh]; unfold wrap64; omega
  have hs2 : IntKind.i64.wrap (2 ^ n0) = (N : Int) := by rw [hsh, IntKind.wrap_i64]; omega
  clear h0 h1 h2 ht hp L0 hsh
  go_enter Tryd.func19, Tryd.ntmps19
  go_wp2_with (go_at_call 27; refine HT.out.mono ?_; rintro e w' ⟨rfl, rfl⟩)
  go_loopw [6] (fun i wr => ∃ k : Nat, 1 ≤ k ∧ k ≤ N ∧ i = .int .i64 k ∧ Hid (∀ j, j < k → atN l p j = false) ∧ Hid (Below w.heap.size w wr)) (fun i _ => N - (intOf i).toNat)
  case atStart =>
    refine ⟨1, by omega, h1p, rfl, fun j hj => ?_, Below.refl _ _⟩
    have e : j = 0 := by omega
    rw [e]
    exact H0.out
  case round =>
    obtain ⟨k, hk1, hk, rfl, hpre, hbl⟩ := hrel
    by_cases hlt : k < N
    · have HCK := Lib.hid (HC.out wr hbl.out k hlt)
      cases hp : atN l p k with
      | true =>
        rw [hp] at HCK
        have hfk := HF.out k hlt hpre.out hp
        have E1 : Hid (pfB l p = true) := by rw [Hid, HB.out]; exact decide_eq_true hfk.2
        have E2 : Hid (pfR l p = (k : Int)) := by rw [Hid, pfR, if_pos E1.out, hfk.1]
        clear hp hfk
        go_wp2_with fail
        refine HCK.out.mono ?_
        rintro e w2 ⟨rfl, hb2⟩
        have HB2 := Lib.hid (hbl.out.trans (hb2.mono hbl.out.size))
        clear hb2 hbl
        go_wp2
        go_ret2
        exact ⟨by rw [E1.out, E2.out]; rfl, HB2.out⟩
      | false =>
        rw [hp] at HCK
        have HP : Hid (∀ j, j < k + 1 → atN l p j = false) := fun j hj => by
          rcases Nat.lt_succ_iff_lt_or_eq.1 hj with hj | rfl
          · exact hpre.out j hj
          · exact hp
        clear hp
        go_wp2_with fail
        refine HCK.out.mono ?_
        rintro e w2 ⟨rfl, hb2⟩
        have HB2 := Lib.hid (hbl.out.trans (hb2.mono hbl.out.size))
        clear hb2 hbl
        go_wp2
        go_roundw
        case rel => exact ⟨k + 1, by omega, by omega, by go_num, HP, HB2⟩
        case measure => simp [intOf]; omega
    · obtain rfl : k = N := by omega
      have hz := HN.out hpre.out
      have E1 : Hid (pfB l p = false) := by rw [Hid, HB.out, hz]; rfl
      have E2 : Hid (pfR l p = 0) := by rw [Hid, pfR, E1.out]; rfl
      clear hz
      go_wp2
      go_ret2
      exact ⟨by rw [E1.out, E2.out]; rfl, hbl.out⟩
end Go.Proofs.YtphffefkjbgibabDoor
