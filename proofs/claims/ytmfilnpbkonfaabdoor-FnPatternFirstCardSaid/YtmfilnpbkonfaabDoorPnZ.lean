/- PatternOf and PatternAt of the program. -/
import Derived.Test.YtmfilnpbkonfaabDoorPnX
import Derived.Test.YtmfilnpbkonfaabDoorPnY
namespace Go.Proofs.YtmfilnpbkonfaabDoor
open Go.ChangeShapes Go.WideShapes Go.ChangeAt Go.RowKit

theorem pow8 (n : Nat) (h : n ≤ 7) : (2 : Int) ^ n - 1 = ((2 ^ n - 1 : Nat) : Int) := by
  obtain rfl | rfl | rfl | rfl | rfl | rfl | rfl | rfl : n = 0 ∨ n = 1 ∨ n = 2 ∨ n = 3 ∨ n = 4 ∨ n = 5 ∨ n = 6 ∨ n = 7 := by omega
  all_goals decide
theorem setI8_any (n : Nat) (s : Int) (r : Bool) (hn : n ≤ 7) (h : (decide (0 ≤ s) && decide (s ≤ 2 ^ n - 1)) = r) (w : World) :
    Calls Tryd.prog 30 #[.int .i64 (n : Int), .int .i64 s] w fun e w' => e = .returned (.bool r) ∧ w = w' := by
  subst h
  have HF := Lib.hid (fun W => fullSet_any n W hn)
  rw [pow8 n hn]
  generalize 2 ^ n - 1 = f at *
  by_cases h0 : 0 ≤ s
  · go_enter Tryd.func30, Tryd.ntmps30
    go_wp2_with (go_at_call 54; refine (HF.out _).mono ?_; rintro e w' ⟨rfl, rfl⟩)
    go_ret
    exact ⟨by simp [h0], rfl⟩
  · have hd : decide (0 ≤ s) = false := by simp; omega
    rw [hd, Bool.false_and]
    go_enter Tryd.func30, Tryd.ntmps30
    go_wp2_with (go_at_call 54; refine (HF.out _).mono ?_; rintro e w' ⟨rfl, rfl⟩)
    go_ret
    exact ⟨rfl, rfl⟩
theorem setI8_yes {n : Nat} {l : List Int} {s : Int} (hL : l.length = n) (h7 : n ≤ 7) (hs : SetL l s) (w : World) :
    Calls Tryd.prog 30 #[.int .i64 (n : Int), .int .i64 s] w fun e w' => e = .returned (.bool true) ∧ w = w' :=
  setI8_any n s true h7 (by have h1 := hs.2.1; have h2 := hs.2.2; rw [hL] at h2; simp; omega) w
theorem setI8_no {n : Nat} {l : List Int} {s : Int} (hL : l.length = n) (h7 : n ≤ 7) (hr : Ring l) (hs : ¬ SetL l s) (w : World) :
    Calls Tryd.prog 30 #[.int .i64 (n : Int), .int .i64 s] w fun e w' => e = .returned (.bool false) ∧ w = w' :=
  setI8_any n s false h7 (by
    rw [Bool.and_eq_false_iff, decide_eq_false_iff_not, decide_eq_false_iff_not]
    by_cases h0 : 0 ≤ s
    · right; intro h1; exact hs ⟨hr, h0, by rw [hL]; exact h1⟩
    · left; exact h0) w

set_option maxRecDepth 10000 in
set_option maxHeartbeats 1000000 in
theorem poI_any (A : Option Addr) (n c H : Nat) (l : List Int) (s : Int) (w : World) (h : Rd w H A n l) (hH : H ≤ w.heap.size) (hn : n ≤ 1048576) (hnc : n ≤ c) (hcm : c ≤ 9223372036854775807) (hT : Tab w) :
    Calls Tryd.prog 10 #[.slice A n c, .int .i64 s] w fun e w' => ∃ v, e = .returned (.tuple #[v, .bool (poB l s)]) ∧ Own w' w.heap.size v (poR l s) ∧ Below w.heap.size w w' := by
  have HL := Lib.hid h.len
  have HRR := Lib.hid (readR_any A n c H l w h hH hn hnc hcm)
  have H7 := Lib.hid (ringP_length l)
  have HTB := Lib.hid (fun (W : World) (hb : Below w.heap.size w W) => hT.on hb)
  by_cases hr : Ring l
  rotate_left
  · have E1 : poB l s = false := by rw [poB, set_no (fun hs => hr hs.1)]; rfl
    have E2 : poR l s = [] := by rw [poR, E1]; rfl
    rw [ring_no hr] at HRR
    rw [E1, E2]
    clear h hr E1 E2 hT
    generalize ringP l = P at *
    go_enter Tryd.func10, Tryd.ntmps10
    go_wp2_with fail
    refine HRR.out.mono ?_
    rintro e w1 ⟨rfl, hb1⟩
    have HA1 := Lib.hid (new_ring w1)
    have HB1 := Lib.hid hb1
    have hs1 := hb1.size
    clear hb1
    go_wp2_with (first
      | (refine store_ring rfl _ _ rfl w1.heap.size zero7 P rfl H7.out rfl rfl HA1 ?_; intro w2 HA2 hg2 hs2
         have HB2 := Lib.hid ((HB1.out.alloc (by omega) (.cells #[.int .i64 0, .int .i64 0, .int .i64 0, .int .i64 0, .int .i64 0, .int .i64 0, .int .i64 0] 48)).grown hg2 (by simp; omega) (by simp; omega))
         clear HA1 HB1 hg2))
    go_ret2
    exact ⟨.slice none 0 0, rfl, ⟨rfl, .inl ⟨rfl, rfl⟩⟩, HB2.out⟩
  have h7 : n ≤ 7 := by rw [← HL.out]; exact hr.1.2.1
  have hP : ringP l = padR l := by rw [ringP, if_pos hr]
  rw [ring_yes hr] at HRR
  by_cases hs : SetL l s
  rotate_left
  · have E1 : poB l s = false := by rw [poB, set_no hs]; rfl
    have E2 : poR l s = [] := by rw [poR, E1]; rfl
    have HI := Lib.hid (fun W => setI8_no HL.out h7 hr hs W)
    rw [E1, E2]
    clear h hr E1 E2 hT hs hP
    generalize ringP l = P at *
    go_enter Tryd.func10, Tryd.ntmps10
    go_wp2_with fail
    refine HRR.out.mono ?_
    rintro e w1 ⟨rfl, hb1⟩
    have HA1 := Lib.hid (new_ring w1)
    have HB1 := Lib.hid hb1
    have hs1 := hb1.size
    clear hb1
    go_wp2_with (first
      | (refine store_ring rfl _ _ rfl w1.heap.size zero7 P rfl H7.out rfl rfl HA1 ?_; intro w2 HA2 hg2 hs2
         have HB2 := Lib.hid ((HB1.out.alloc (by omega) (.cells #[.int .i64 0, .int .i64 0, .int .i64 0, .int .i64 0, .int .i64 0, .int .i64 0, .int .i64 0] 48)).grown hg2 (by simp; omega) (by simp; omega))
         clear HA1 HB1 hg2)
      | (go_at_call 30; refine (HI.out _).mono ?_; rintro e w' ⟨rfl, rfl⟩))
    go_ret2
    exact ⟨.slice none 0 0, rfl, ⟨rfl, .inl ⟨rfl, rfl⟩⟩, HB2.out⟩
  obtain ⟨k, rfl, hk, h128⟩ := hs.nat
  have HI := Lib.hid (fun W => setI8_yes HL.out h7 hs W)
  have HZ := Lib.hid (fun W => setSize_any k W h128)
  by_cases h3 : 3 ≤ sizN k
  rotate_left
  · have E1 : poB l (k : Int) = false := by rw [poB, set_yes hs, Int.toNat_natCast, decide_eq_false h3]; rfl
    have E2 : poR l (k : Int) = [] := by rw [poR, E1]; rfl
    have hc : ((sizN k : Int) < 3) := by omega
    rw [E1, E2]
    clear h hr E1 E2 hT hs hP hk h3
    generalize ringP l = P at *
    generalize sizN k = z at *
    go_enter Tryd.func10, Tryd.ntmps10
    go_wp2_with fail
    refine HRR.out.mono ?_
    rintro e w1 ⟨rfl, hb1⟩
    have HA1 := Lib.hid (new_ring w1)
    have HB1 := Lib.hid hb1
    have hs1 := hb1.size
    clear hb1
    go_wp2_with (first
      | (refine store_ring rfl _ _ rfl w1.heap.size zero7 P rfl H7.out rfl rfl HA1 ?_; intro w2 HA2 hg2 hs2
         have HB2 := Lib.hid ((HB1.out.alloc (by omega) (.cells #[.int .i64 0, .int .i64 0, .int .i64 0, .int .i64 0, .int .i64 0, .int .i64 0, .int .i64 0] 48)).grown hg2 (by simp; omega) (by simp; omega))
         clear HA1 HB1 hg2)
      | (go_at_call 30; refine (HI.out _).mono ?_; rintro e w' ⟨rfl, rfl⟩)
      | (go_at_call 31; refine (HZ.out _).mono ?_; rintro e w' ⟨rfl, rfl⟩))
    go_ret2
    exact ⟨.slice none 0 0, rfl, ⟨rfl, .inl ⟨rfl, rfl⟩⟩, HB2.out⟩
  have E1 : poB l (k : Int) = true := by rw [poB, set_yes hs, Int.toNat_natCast, decide_eq_true h3]; rfl
  have E2 : poR l (k : Int) = patL l k := by rw [poR, if_pos E1, Int.toNat_natCast]
  have hc : ¬ ((sizN k : Int) < 3) := by omega
  have HPA := Lib.hid (fun W (hW : Tab W) => patAt_any l k W hr.1 (siz_pos rfl (by omega)) hk hW)
  have hpl := pat_length hr.1 hk
  have HLI := Lib.hid (fun W => list_any (patL l k) W (by omega) (by rw [hpl]; exact siz_le k) (fun x hx => (pat_bd l k x hx).1))
  rw [E1, E2]
  unfold agp at HPA HLI
  rw [hP] at HRR H7
  clear h hr E1 E2 hT hs hP hk h3 hpl
  generalize padR l = P at *
  generalize sizN k = z at *
  generalize patL l k = R at *
  generalize padR R = Q at *
  go_enter Tryd.func10, Tryd.ntmps10
  go_wp2_with fail
  refine HRR.out.mono ?_
  rintro e w1 ⟨rfl, hb1⟩
  have HA1 := Lib.hid (new_ring w1)
  have HB1 := Lib.hid hb1
  have hs1 := hb1.size
  clear hb1
  go_wp2_with (first
    | (refine store_ring rfl _ _ rfl w1.heap.size zero7 P rfl H7.out rfl rfl HA1 ?_; intro w2 HA2 hg2 hs2
       have HB2 := Lib.hid ((HB1.out.alloc (by omega) (.cells #[.int .i64 0, .int .i64 0, .int .i64 0, .int .i64 0, .int .i64 0, .int .i64 0, .int .i64 0] 48)).grown hg2 (by simp; omega) (by simp; omega))
       clear HA1 HB1 hg2)
    | (go_at_call 30; refine (HI.out _).mono ?_; rintro e w' ⟨rfl, rfl⟩)
    | (go_at_call 31; refine (HZ.out _).mono ?_; rintro e w' ⟨rfl, rfl⟩)
    | (refine load_ring rfl _ rfl w1.heap.size P H7.out rfl HA2 ?_)
    | (go_at_call 32; refine (HPA.out _ (HTB.out _ HB2.out)).mono ?_; rintro e w3 ⟨rfl, hb3⟩
       have HB3 := Lib.hid (HB2.out.trans (hb3.mono HB2.out.size))
       clear hb3)
    | (go_at_call 37; refine (HLI.out _).mono ?_; rintro e w4 ⟨v4, rfl, ho4, hb4⟩
       have HO4 := Lib.hid (own_less ho4 HB3.out.size)
       have HB4 := Lib.hid (HB3.out.trans (hb4.mono HB3.out.size))
       obtain ⟨A4, c4, ev⟩ := ho4.slice
       subst ev
       clear ho4 hb4))
  go_ret2
  exact ⟨_, rfl, HO4.out, HB4.out⟩
end Go.Proofs.YtmfilnpbkonfaabDoor
