/- PatternAt of the program. -/
import Derived.Test.YtmfilnpbkonfaabDoorPnZ
import Derived.BigQuiet
import Derived.Deep.QuietTactic
import Derived.Deep.RegionHeld3
namespace Go.Proofs.YtmfilnpbkonfaabDoor
open Go.ChangeShapes Go.WideShapes Go.ChangeAt Go.RowKit

attribute [local go_sem ↓] ldR_fold stR_fold in
set_option maxRecDepth 10000 in
set_option maxHeartbeats 2000000 in
theorem paI_any (A0 : Option Addr) (n0 c0 : Nat) (A1 : Option Addr) (n1 c1 H : Nat) (l0 l1 : List Int) (s : Int) (w : World) (h0 : Rd w H A0 n0 l0) (h1 : Rd w H A1 n1 l1) (hH : H ≤ w.heap.size) (hn0 : n0 ≤ 1048576) (hn1 : n1 ≤ 1048576) (hnc0 : n0 ≤ c0) (hcm0 : c0 ≤ 9223372036854775807) (hnc1 : n1 ≤ c1) (hcm1 : c1 ≤ 9223372036854775807) (hT : Tab w) :
    Calls Tryd.prog 8 #[.slice A0 n0 c0, .slice A1 n1 c1, .int .i64 s] w fun e w' => e = .returned (.bool (paB l0 l1 s)) ∧ Below w.heap.size w w' := by
  have HR := Lib.hid (pat2_any A0 n0 c0 A1 n1 c1 H l0 l1 w h0 h1 hH hn0 hn1 hnc0 hcm0 hnc1 hcm1)
  have H70 := ringP_length l0
  have H71 := ringP_length l1
  have HTB := Lib.hid (fun (W : World) (hb : Below w.heap.size w W) => hT.on hb)
  have L0 := h0.len
  have L1 := h1.len
  clear h0 h1 hT
  by_cases h2 : Two8 l0 l1
  rotate_left
  · have E1 : paB l0 l1 s = false := by rw [paB, two8_no h2]; rfl
    rw [two8_no h2] at HR
    rw [E1]
    generalize ringP l0 = P0 at *
    generalize ringP l1 = P1 at *
    clear h2 E1 L0 L1
    go_enter Tryd.func8, Tryd.ntmps8
    go_wp2_with fail
    refine HR.out.mono ?_
    rintro e W1 ⟨rfl, hb1⟩
    obtain ⟨V1, V, r1, r2, a1, a2, hb2, hs2⟩ := new_two W1 P0 P1 H70 H71
    have HB := Lib.hid (hb1.trans (hb2.mono hb1.size))
    clear hb1 hb2 a1 a2 hs2
    go_wp2_with fail
    go_quiet (fail)
    go_wp2
    go_ret
    exact ⟨rfl, below_drewN HB.out _⟩
  have h7 : n0 ≤ 7 := by rw [← L0]; exact h2.1.1.2.1
  by_cases hs : SetL l0 s
  rotate_left
  · have E1 : paB l0 l1 s = false := by rw [paB, two8_yes h2, set_no hs]; rfl
    have HI := Lib.hid (fun W => setI8_no L0 h7 h2.1 hs W)
    rw [two8_yes h2] at HR
    rw [E1]
    generalize ringP l0 = P0 at *
    generalize ringP l1 = P1 at *
    clear h2 hs E1 L0 L1
    go_enter Tryd.func8, Tryd.ntmps8
    go_wp2_with fail
    refine HR.out.mono ?_
    rintro e W1 ⟨rfl, hb1⟩
    obtain ⟨V1, V, r1, r2, a1, a2, hb2, hs2⟩ := new_two W1 P0 P1 H70 H71
    have HB := Lib.hid (hb1.trans (hb2.mono hb1.size))
    clear hb1 hb2 a1 a2 hs2
    go_wp2_with fail
    go_quiet (refine Calls.quiet_of_same ((HI.out _).mono fun e w' h => ⟨h.1, h.2.symm⟩))
    go_wp2
    go_ret
    exact ⟨rfl, below_drewN HB.out _⟩
  obtain ⟨k, rfl, hk, h128⟩ := hs.nat
  have HI := Lib.hid (fun W => setI8_yes L0 h7 hs W)
  have HZ := Lib.hid (fun W => setSize_any k W h128)
  by_cases hz : sizN k = l1.length
  rotate_left
  · have E1 : paB l0 l1 (k : Int) = false := by rw [paB, two8_yes h2, set_yes hs, Int.toNat_natCast, at_siz h2.1.1 hk hz]; rfl
    rw [two8_yes h2] at HR
    rw [E1]
    have hz' : ((sizN k : Int) == (n1 : Int)) = false := by rw [← L1]; simp; omega
    generalize sizN k = z at *
    generalize ringP l0 = P0 at *
    generalize ringP l1 = P1 at *
    clear h2 hs E1 L0 L1 hk hz
    go_enter Tryd.func8, Tryd.ntmps8
    go_wp2_with fail
    refine HR.out.mono ?_
    rintro e W1 ⟨rfl, hb1⟩
    obtain ⟨V1, V, r1, r2, a1, a2, hb2, hs2⟩ := new_two W1 P0 P1 H70 H71
    have HB := Lib.hid (hb1.trans (hb2.mono hb1.size))
    clear hb1 hb2 a1 a2 hs2
    go_wp2_with fail
    go_quiet (first
      | refine Calls.quiet_of_same ((HI.out _).mono fun e w' h => ⟨h.1, h.2.symm⟩)
      | refine Calls.quiet_of_same ((HZ.out _).mono fun e w' h => ⟨h.1, h.2.symm⟩))
    go_wp2
    go_ret
    exact ⟨rfl, below_drewN HB.out _⟩
  have E1 : Hid (paB l0 l1 (k : Int) = atN l0 l1 k) := by rw [Hid, paB, two8_yes h2, set_yes hs, Int.toNat_natCast]; rfl
  rw [two8_yes h2] at HR
  rw [E1.out]
  have hz' : ((sizN k : Int) == (n1 : Int)) = true := by rw [hz, L1]; simp
  have HPA := Lib.hid (fun W (hW : Tab W) => patAt_any l0 k W h2.1.1 (siz_pos hz (by have := h2.2.1.1.1; omega)) hk hW)
  have HD : Hid (decide (padR (patL l0 k) = padR l1) = atN l0 l1 k) := pad_inj (fun x hx => (pat_bd l0 k x hx).1) h2.2.1.1.pos
  have H72 := padR_length (patL l0 k) (by rw [pat_length h2.1.1 hk]; exact siz_le k)
  have e0 : ringP l0 = padR l0 := by rw [ringP, if_pos h2.1]
  have e1 : ringP l1 = padR l1 := by rw [ringP, if_pos h2.2.1]
  rw [e0] at HR H70
  rw [e1] at HR H71
  unfold agp at HPA
  clear h2 hs E1 L0 L1 hk hz e0 e1
  generalize atN l0 l1 k = r at *
  generalize sizN k = z at *
  generalize padR (patL l0 k) = Q at *
  generalize padR l0 = P0 at *
  generalize padR l1 = P1 at *
  obtain ⟨a0, a1, a2, a3, a4, a5, a6, rfl⟩ := seven H70
  obtain ⟨b0, b1, b2, b3, b4, b5, b6, rfl⟩ := seven H71
  obtain ⟨q0, q1, q2, q3, q4, q5, q6, rfl⟩ := seven H72
  have heq : ∀ W : World, (binOp .eql 48 (ag q0 q1 q2 q3 q4 q5 q6) (ag b0 b1 b2 b3 b4 b5 b6)).run Tryd.prog W = .ok (.bool r) W := fun W => by rw [eq_ring, HD.out]
  simp only [ints, List.map_cons, List.map_nil] at HPA HR
  go_enter Tryd.func8, Tryd.ntmps8
  go_wp2_with fail
  refine HR.out.mono ?_
  rintro e W1 ⟨rfl, hb1⟩
  obtain ⟨V1, V, r1, r2, x1, x2, hb2, hs2⟩ := new_two W1 [a0, a1, a2, a3, a4, a5, a6] [b0, b1, b2, b3, b4, b5, b6] rfl rfl
  have l1 := ldR_run x1.drew rfl
  have l2 := ldR_run x2.drew rfl
  have HB : Hid (Below w.heap.size w V) := hb1.trans (hb2.mono hb1.size)
  have HX1 := Lib.hid x1
  have HX2 := Lib.hid x2
  have HTV : Hid (Tab V.drew) := HTB.out V HB.out
  simp only [ints, List.map_cons, List.map_nil] at r1 r2 l1 l2
  clear hb1 hb2 x1 x2 hs2
  go_wp2_with fail
  go_region_held3 (fun V' => (ldR ⟨W1.heap.size, 0, none⟩).run Tryd.prog V' = .ok (.agg #[.int .i64 a0, .int .i64 a1, .int .i64 a2, .int .i64 a3, .int .i64 a4, .int .i64 a5, .int .i64 a6]) V' ∧ (ldR ⟨W1.heap.size + 1, 0, none⟩).run Tryd.prog V' = .ok (.agg #[.int .i64 b0, .int .i64 b1, .int .i64 b2, .int .i64 b3, .int .i64 b4, .int .i64 b5, .int .i64 b6]) V')
    (first
      | exact ⟨la, lb⟩
      | exact ⟨l1, l2⟩)
    (first
      | (go_at_call 30; refine (HI.out _).mono ?_; rintro e w' ⟨rfl, rfl⟩)
      | (go_at_call 31; refine (HZ.out _).mono ?_; rintro e w' ⟨rfl, rfl⟩)
      | (go_at_call 32; refine (HPA.out _ HTV.out).mono ?_; rintro e wa ⟨rfl, hba⟩
         have HBA : Hid (Below w.heap.size w wa) := HB.out.drew.trans (hba.mono HB.out.size)
         have la := ldR_run (HX1.out.drew.below hba HX1.out.lt) rfl
         have lb := ldR_run (HX2.out.drew.below hba HX2.out.lt) rfl
         simp only [ints, List.map_cons, List.map_nil] at la lb
         clear hba))
  all_goals
    go_wp2
    go_ret
    exact ⟨by first | rfl | (cases r <;> rfl), HBA.out⟩
end Go.Proofs.YtmfilnpbkonfaabDoor
