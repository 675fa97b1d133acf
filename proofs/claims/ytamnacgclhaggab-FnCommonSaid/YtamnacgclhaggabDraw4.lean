/- The laws' drawer of two rings: two lists of at most seven ints in new memory. -/
import Derived.Test.YtamnacgclhaggabDR
import Derived.Test.YtamnacgclhaggabDraw1
import Derived.Test.YtamnacgclhaggabWindM
namespace Go.Proofs.Ytamnacgclhaggab
open Go.ChangeShapes Go.WideShapes Go.ChangeAt Go.RowKit

/-- Where a point stands, if it is there; some place else. -/
theorem at2_any (A : Option Addr) (n c H : Nat) (l : List Int) (x : Int) (w : World) (h : Rd w H A n l) (hn : n ≤ 1048576) (h1 : 1 ≤ n) :
    Calls Try.prog 127 #[.slice A n c, .int .i64 x] w fun e w' => (∃ r : Nat, r < n ∧ e = .returned (.int .i64 (r : Int))) ∧ w = w' := by
  go_enter Try.func127, Try.ntmps127
  go_wp2
  go_loop [5] (fun i => ∃ k : Nat, k ≤ n ∧ i = .int .i64 k) (fun i => n - (intOf i).toNat)
  case atStart => exact ⟨0, Nat.zero_le _, rfl⟩
  case round =>
    obtain ⟨k, hk, rfl⟩ := hrel
    by_cases hlt : k < n
    · obtain ⟨b, o, rfl, hbH, hcs⟩ := h.at_ (by omega)
      have hc := hcs k hlt
      clear hcs
      generalize l.getD k 0 = y at hc
      by_cases hxy : y = x
      · have hb : (y == x) = true := by simp [hxy]
        clear hxy
        go_wp2
        go_ret
        exact ⟨⟨k, hlt, rfl⟩, rfl⟩
      · have hb : (y == x) = false := by simp [hxy]
        clear hxy
        go_wp2
        go_round
        case rel => exact ⟨k + 1, by omega, by go_num⟩
        case measure => simp [intOf]; omega
    · obtain rfl : k = n := by omega
      go_wp2
      go_ret
      exact ⟨⟨0, by omega, rfl⟩, rfl⟩

def turnL (l : List Int) (s : Nat) : List Int := (List.range l.length).map fun i => l.getD ((s + i) % l.length) 0
theorem turnL_length (l : List Int) (s : Nat) : (turnL l s).length = l.length := by simp [turnL]
theorem turnL_get (l : List Int) (s k : Nat) (hk : k < l.length) : (turnL l s).getD k 0 = l.getD ((s + k) % l.length) 0 := by simp [turnL, List.getD, hk]

set_option maxHeartbeats 1000000 in
theorem cut2_any (A : Option Addr) (n c H : Nat) (l : List Int) (x : Int) (w : World) (h : Rd w H A n l) (hH : H ≤ w.heap.size) (h1 : 1 ≤ n) (hn : n ≤ 7) :
    Calls Try.prog 96 #[.slice A n c, .int .i64 x] w fun e w' => ∃ v l', e = .returned v ∧ Own w' w.heap.size v l' ∧ l'.length = n ∧ Below w.heap.size w w' := by
  obtain ⟨i0, hi, hz0, hz1, hz2⟩ := info_parts int_info
  have HL := Lib.hid h.len
  have HAT := Lib.hid (fun W hW => at2_any A n c H l x W hW (by omega) h1)
  have ho0 := own_empty w _ (Nat.le_refl _)
  have hb0 := (Below.refl w.heap.size w).alloc (Nat.le_refl _) (.cells #[] 3)
  have hr0 := h.alloc hH (.cells #[] 3)
  clear h
  go_enter Try.func96, Try.ntmps96
  go_wp2_with fail
  refine (HAT.out _ hr0).mono ?_
  rintro e w' ⟨⟨s, hs, rfl⟩, rfl⟩
  have HCL : Hid ((turnL l s).length = n) := by rw [Hid, turnL_length]; exact HL.out
  have hget : Hid (∀ k, k < n → (turnL l s).getD k 0 = l.getD ((s + k) % n) 0) := fun k hk => by rw [← HL.out]; exact turnL_get l s k (by rw [HL.out]; exact hk)
  generalize turnL l s = C at *
  go_wp2_with fail
  obtain ⟨W0, h0⟩ : ∃ W, W = w.alloc (.cells #[] 3) := ⟨_, rfl⟩
  rw [← h0] at ho0 hb0 hr0 ⊢
  clear h0
  have hsz : w.heap.size ≤ w.heap.size := Nat.le_refl _
  go_loopw [5, 7] (fun v i wr => ∃ k : Nat, k ≤ n ∧ i = .int .i64 k ∧ Hid (wr.ownsRow w.heap.size 3 1 v k (ints (C.take k))) ∧ Rd wr H A n l ∧ Below w.heap.size w wr) (fun _ i _ => n - (intOf i).toNat)
  case atStart => exact ⟨0, Nat.zero_le _, rfl, by simpa [Own, Hid, ints] using ho0, hr0, hb0⟩
  case round =>
    obtain ⟨k, hk, rfl, hown, hrd, hbl⟩ := hrel
    clear ho0 hb0 hr0 HAT
    by_cases hlt : k < n
    · obtain ⟨b, o, rfl, hbH, hcs⟩ := hrd.at_ (by omega)
      have hmod : (s + k) % n < n := Nat.mod_lt _ (by omega)
      have hc := hcs ((s + k) % n) hmod
      rw [← hget.out k hlt] at hc
      have hsn := Lib.hid (take_snoc C k (by rw [HCL.out]; exact hlt))
      have hmi : ((s : Int) + (k : Int)) % (n : Int) < (n : Int) := Int.emod_lt_of_pos _ (by omega)
      have hmo : 0 ≤ ((s : Int) + (k : Int)) % (n : Int) := Int.emod_nonneg _ (by omega)
      clear hcs
      generalize C.getD k 0 = y at hc hsn
      go_wp2_with (at_builtin; refine wpList_append_own _ rfl _ _ 23 rfl w.heap.size 3 i0 (.int .i64 0) 1 8 Try.underlying23 hi hz0 hz1 hz2 rfl (by decide) _ _ _ rfl (hown.out.alloc _) ⟨wr.heap.size, 0, none⟩ 1 1 [.int .i64 y] rfl rfl (one_cell wr _ _) (by simp [Value.oneCell']) (by unfold maxLen; omega) (by omega) (by have := hbl.size; simp; omega) ?_)
      intro v' w1 hown' hgrow _
      rw [hsn.out] at hown'
      have HO := Lib.hid hown'
      have hb1 := own_below hown.out hbl hbl.size hgrow
      have hr1 := (hrd.alloc (Nat.le_trans hH hbl.size) (.cells #[.int .i64 y] 3)).below ((Below.refl H _).grown hgrow (by have := hbl.size; simp; omega) (fun q hq => Nat.le_trans hH (hown.out.lt q hq).1))
      clear hown' hgrow
      go_wp2
      go_roundw
      case rel => exact ⟨k + 1, by omega, by go_num, HO, hr1, hb1⟩
      case measure => simp [intOf]; omega
    · obtain rfl : k = n := by omega
      go_wp2
      go_ret
      refine ⟨_, C, rfl, ?_, HCL.out, hbl⟩
      have := hown.out
      rw [List.take_of_length_le (by rw [HCL.out]; omega)] at this
      unfold Own
      rw [HCL.out]
      exact this

set_option maxHeartbeats 1000000 in
theorem swap5_any (A : Option Addr) (n c H : Nat) (l : List Int) (x : Int) (w : World) (h : Rd w H A n l) (hH : H ≤ w.heap.size) (h3 : 3 ≤ n) (hn : n ≤ 7) :
    Calls Try.prog 81 #[.slice A n c, .int .i64 x] w fun e w' => ∃ v l', e = .returned v ∧ Own w' w.heap.size v l' ∧ l'.length = n ∧ Below w.heap.size w w' := by
  have HC := Lib.hid (cut2_any A n c H l x w h hH (by omega) hn)
  clear h
  go_enter Try.func81, Try.ntmps81
  go_wp2_with fail
  refine HC.out.mono ?_
  rintro e w1 ⟨v, C, rfl, ho, hC, hb⟩
  obtain ⟨g, cap, rfl, hgB, hgs, hnc, hcm, hcs⟩ := ownHead ho (by omega)
  rw [hC] at hnc
  have hG := ho.gen
  rw [hC] at hG hcs
  have c0 := hcs 0 (by omega)
  have c1 := hcs 1 (by omega)
  have f0 : w1.frozen? ⟨g, 0, none⟩ = false ∧ w1.frozen? ⟨g, 1, none⟩ = false := by
    rcases ho.2 with ⟨_, h0⟩ | ⟨g', cap', cur, e, _, hg, _⟩
    · omega
    · injection e with e1 _ _
      injection e1 with e1
      injection e1 with e1
      subst e1
      exact ⟨frozen_of_row w1 g 0 cur _ hg, frozen_of_row w1 g 1 cur _ hg⟩
  obtain ⟨f0, f1⟩ := f0
  have hS1 := hG.set (k := 0) (by omega) (C.getD 1 0)
  have hS2 := hS1.set (k := 1) (by simp; omega) (C.getD 0 0)
  have HB := Lib.hid hb
  have hL : ((C.set 0 (C.getD 1 0)).set 1 (C.getD 0 0)).length = n := by simp [hC]
  rw [Nat.zero_add, Nat.zero_add] at hS2
  rw [hC]
  generalize (C.set 0 (C.getD 1 0)).set 1 (C.getD 0 0) = C2 at *
  generalize C.getD 0 0 = y0 at *
  generalize C.getD 1 0 = y1 at *
  have HS2 := Lib.hid hS2
  have HL := Lib.hid hL
  have HB2 : Hid (Below w.heap.size w ((w1.setCell ⟨g, 0, none⟩ (.int .i64 y1)).setCell ⟨g, 1, none⟩ (.int .i64 y0))) := (hb.setCell hgB _).setCell hgB _
  clear hcs hG hS1 hS2 ho hb HC hL
  go_wp2_with fail
  have hrd := HS2.out.rd.2
  refine (cut2_any _ _ _ _ C2 0 _ hrd (Nat.le_refl _) (by omega) hn).mono ?_
  rintro e w3 ⟨v, l', rfl, ho, hl', hb⟩
  have HO := Lib.hid (own_less ho HB2.out.size)
  have HB3 := Lib.hid (HB2.out.trans (hb.mono HB2.out.size))
  clear ho hb hrd
  go_wp2
  go_ret
  exact ⟨_, l', rfl, HO.out, hl', HB3.out⟩
end Go.Proofs.Ytamnacgclhaggab
