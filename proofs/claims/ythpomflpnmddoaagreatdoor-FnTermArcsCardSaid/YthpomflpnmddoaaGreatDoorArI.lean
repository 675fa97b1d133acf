/- A ring and a set read by the program; whether a set is an arc, how many arcs, the first and the last point of one. -/
import Derived.Test.YthpomflpnmddoaaGreatDoorArS
import Derived.Test.YthpomflpnmddoaaGreatDoorLrn
namespace Go.Proofs.YthpomflpnmddoaaGreatDoor
open Go.ChangeShapes Go.WideShapes Go.ChangeAt Go.RowKit

theorem pow7 (n : Nat) (h : n ≤ 7) : (2 : Int) ^ n - 1 = ((2 ^ n - 1 : Nat) : Int) := by
  obtain rfl | rfl | rfl | rfl | rfl | rfl | rfl | rfl : n = 0 ∨ n = 1 ∨ n = 2 ∨ n = 3 ∨ n = 4 ∨ n = 5 ∨ n = 6 ∨ n = 7 := by omega
  all_goals decide
theorem setI7_any (n : Nat) (s : Int) (r : Bool) (hn : n ≤ 7) (h : (decide (0 ≤ s) && decide (s ≤ 2 ^ n - 1)) = r) (w : World) :
    Calls Tryz.prog 47 #[.int .i64 (n : Int), .int .i64 s] w fun e w' => e = .returned (.bool r) ∧ w = w' := by
  subst h
  have HF := Lib.hid (fun W => fullSet_any n W hn)
  rw [pow7 n hn]
  generalize 2 ^ n - 1 = f at *
  by_cases h0 : 0 ≤ s
  · go_enter Tryz.func47, Tryz.ntmps47
    go_wp2_with (go_at_call 13; refine (HF.out _).mono ?_; rintro e w' ⟨rfl, rfl⟩)
    go_ret
    exact ⟨by simp [h0], rfl⟩
  · have hd : decide (0 ≤ s) = false := by simp; omega
    rw [hd, Bool.false_and]
    go_enter Tryz.func47, Tryz.ntmps47
    go_wp2_with (go_at_call 13; refine (HF.out _).mono ?_; rintro e w' ⟨rfl, rfl⟩)
    go_ret
    exact ⟨rfl, rfl⟩

set_option maxRecDepth 10000 in
set_option maxHeartbeats 1000000 in
theorem readSet_yes (A : Option Addr) (n c H : Nat) (l : List Int) (s : Nat) (w : World) (h : Rd w H A n l) (hH : H ≤ w.heap.size) (hn : n ≤ 1048576) (hnc : n ≤ c) (hcm : c ≤ 9223372036854775807) (hs : SetL l (s : Int)) :
    Calls Tryz.prog 24 #[.slice A n c, .int .i64 (s : Int)] w fun e w' => ∃ (g : Nat → Nat) (b : Nat), e = .returned (.tuple #[.pointer (some ⟨g 0, 0, none⟩), askV b, .bool true]) ∧ Lnk w' w.heap.size g l ∧ SetC w' b s ∧ Below w.heap.size w w' := by
  have HL := Lib.hid h.len
  have HRR := Lib.hid (readR_any A n c H l w h hH hn hnc hcm)
  have H7 := Lib.hid (ringP_length l)
  have hP : ringP l = padR l := by rw [ringP, if_pos hs.1]
  rw [ring_yes hs.1] at HRR
  have h7 : n ≤ 7 := by rw [← HL.out]; exact hs.1.1.2.1
  have HI := Lib.hid (setI7_any n (s : Int) true h7 (by have h1 := hs.2.1; have h2 := hs.2.2; rw [HL.out] at h2; simp; omega))
  have HLK := Lib.hid (fun W => linked_any l W (by have := hs.1.1.1; omega) hs.1.1.2.1 fun x hx => (hs.bd x hx).1)
  have HAS := Lib.hid (fun W => askedA_any s W)
  unfold agp at HLK
  rw [← hP] at HLK
  clear h hs hP
  generalize ringP l = P at *
  go_enter Tryz.func24, Tryz.ntmps24
  go_wp2_with fail
  refine HRR.out.mono ?_
  rintro e w1 ⟨rfl, hb1⟩
  have HA1 := Lib.hid (new_ring w1)
  have HB1 := Lib.hid hb1
  have hs1 := hb1.size
  clear hb1
  go_wp2_with (first
    | (refine store_ring rfl _ _ rfl w1.heap.size zero7 P rfl H7.out rfl rfl HA1 ?_; intro w2 HA2 hg2 hs2
       have HB2 := Lib.hid ((HB1.out.alloc (by omega) (.cells #[.int .i64 0, .int .i64 0, .int .i64 0, .int .i64 0, .int .i64 0, .int .i64 0, .int .i64 0] 35)).grown hg2 (by simp; omega) (by simp; omega))
       clear HA1 HB1 hg2)
    | (go_at_call 47; refine (HI.out _).mono ?_; rintro e w' ⟨rfl, rfl⟩)
    | (refine load_ring rfl _ rfl w1.heap.size P H7.out rfl HA2 ?_)
    | (go_at_call 48; refine (HLK.out _).mono ?_; rintro e w3 ⟨g, rfl, hl3, hb3⟩
       have HL3 := Lib.hid (hl3.less HB2.out.size)
       have HB3 := Lib.hid (HB2.out.trans (hb3.mono HB2.out.size))
       clear hl3 hb3)
    | (go_at_call 49; refine (HAS.out _).mono ?_; rintro e w4 ⟨rfl, rfl⟩))
  go_ret3
  exact ⟨g, w3.heap.size, rfl, HL3.out.alloc _, SetC.new _ _, HB3.out.alloc HB3.out.size _⟩

set_option maxRecDepth 10000 in
set_option maxHeartbeats 1000000 in
theorem readSet_no (A : Option Addr) (n c H : Nat) (l : List Int) (s : Int) (w : World) (h : Rd w H A n l) (hH : H ≤ w.heap.size) (hn : n ≤ 1048576) (hnc : n ≤ c) (hcm : c ≤ 9223372036854775807) (hs : ¬ SetL l s) :
    Calls Tryz.prog 24 #[.slice A n c, .int .i64 s] w fun e w' => e = .returned (.tuple #[.pointer none, Value.nilFunc, .bool false]) ∧ Below w.heap.size w w' := by
  have HL := Lib.hid h.len
  have HRR := Lib.hid (readR_any A n c H l w h hH hn hnc hcm)
  have H7 := Lib.hid (ringP_length l)
  by_cases hr : Ring l
  · rw [ring_yes hr] at HRR
    have h7 : n ≤ 7 := by rw [← HL.out]; exact hr.1.2.1
    have HI := Lib.hid (setI7_any n s false h7 (by
      rw [Bool.and_eq_false_iff, decide_eq_false_iff_not, decide_eq_false_iff_not]
      by_cases h0 : 0 ≤ s
      · right; intro h1; exact hs ⟨hr, h0, by rw [HL.out]; exact h1⟩
      · left; exact h0))
    clear h hs hr
    generalize ringP l = P at *
    go_enter Tryz.func24, Tryz.ntmps24
    go_wp2_with fail
    refine HRR.out.mono ?_
    rintro e w1 ⟨rfl, hb1⟩
    have HA1 := Lib.hid (new_ring w1)
    have HB1 := Lib.hid hb1
    have hs1 := hb1.size
    clear hb1
    go_wp2_with (first
      | (refine store_ring rfl _ _ rfl w1.heap.size zero7 P rfl H7.out rfl rfl HA1 ?_; intro w2 HA2 hg2 hs2
         have HB2 := Lib.hid ((HB1.out.alloc (by omega) (.cells #[.int .i64 0, .int .i64 0, .int .i64 0, .int .i64 0, .int .i64 0, .int .i64 0, .int .i64 0] 35)).grown hg2 (by simp; omega) (by simp; omega))
         clear HA1 HB1 hg2)
      | (go_at_call 47; refine (HI.out _).mono ?_; rintro e w' ⟨rfl, rfl⟩))
    go_ret3
    exact ⟨rfl, HB2.out⟩
  · rw [ring_no hr] at HRR
    clear h hs hr
    generalize ringP l = P at *
    go_enter Tryz.func24, Tryz.ntmps24
    go_wp2_with fail
    refine HRR.out.mono ?_
    rintro e w1 ⟨rfl, hb1⟩
    have HA1 := Lib.hid (new_ring w1)
    have HB1 := Lib.hid hb1
    have hs1 := hb1.size
    clear hb1
    go_wp2_with (first
      | (refine store_ring rfl _ _ rfl w1.heap.size zero7 P rfl H7.out rfl rfl HA1 ?_; intro w2 HA2 hg2 hs2
         have HB2 := Lib.hid ((HB1.out.alloc (by omega) (.cells #[.int .i64 0, .int .i64 0, .int .i64 0, .int .i64 0, .int .i64 0, .int .i64 0, .int .i64 0] 35)).grown hg2 (by simp; omega) (by simp; omega))
         clear HA1 HB1 hg2))
    go_ret3
    exact ⟨rfl, HB2.out⟩

set_option maxHeartbeats 1000000 in
theorem isI_any (A : Option Addr) (n c H : Nat) (l : List Int) (s : Int) (w : World) (h : Rd w H A n l) (hH : H ≤ w.heap.size) (hn : n ≤ 1048576) (hnc : n ≤ c) (hcm : c ≤ 9223372036854775807) :
    Calls Tryz.prog 10 #[.slice A n c, .int .i64 s] w fun e w' => e = .returned (.bool (arcB l s)) ∧ Below w.heap.size w w' := by
  by_cases hs : SetL l s
  · obtain ⟨k, rfl, hk, h128⟩ := hs.nat
    have HR := Lib.hid (readSet_yes A n c H l k w h hH hn hnc hcm hs)
    have HA := Lib.hid (fun (g : Nat → Nat) (b D : Nat) (V : World) (h1 : Lnk V D g l) (h2 : SetC V b k) => isArc_any l k b D g V h1 (by have := hs.1.1.1; omega) hs.1.1.2.1 hs.bd h128 h2)
    have HE : Hid (arcB l (k : Int) = decide (runN (hasN k) l = 1)) := by rw [Hid, arcB, set_yes hs, Bool.true_and, Int.toNat_natCast]
    rw [HE.out]
    generalize decide (runN (hasN k) l = 1) = r at *
    clear h hs hk h128 HE
    go_enter Tryz.func10, Tryz.ntmps10
    go_wp2_with fail
    refine HR.out.mono ?_
    rintro e w1 ⟨g, b, rfl, hl1, hc1, hb1⟩
    have HB1 := Lib.hid hb1
    have HA1 := Lib.hid (HA.out g b _ w1 hl1 hc1)
    clear hl1 hc1 hb1
    go_wp2_with fail
    refine HA1.out.mono ?_
    rintro e w2 ⟨rfl, hb2⟩
    have HB2 := Lib.hid (HB1.out.trans (hb2.mono HB1.out.size))
    clear hb2
    go_wp2
    go_ret
    exact ⟨rfl, HB2.out⟩
  · have HR := Lib.hid (readSet_no A n c H l s w h hH hn hnc hcm hs)
    have HE : Hid (arcB l s = false) := by rw [Hid, arcB, set_no hs]; rfl
    rw [HE.out]
    clear h hs HE
    go_enter Tryz.func10, Tryz.ntmps10
    go_wp2_with fail
    refine HR.out.mono ?_
    rintro e w1 ⟨rfl, hb1⟩
    go_wp2
    go_ret
    exact ⟨rfl, hb1⟩
end Go.Proofs.YthpomflpnmddoaaGreatDoor
