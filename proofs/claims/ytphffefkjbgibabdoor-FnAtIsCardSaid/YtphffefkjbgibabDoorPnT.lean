/- A ring and a pattern read: the program. -/
import Derived.Test.YtphffefkjbgibabDoorPnM
import Derived.Test.YtphffefkjbgibabDoorTwo
namespace Go.Proofs.YtphffefkjbgibabDoor
open Go.ChangeShapes Go.WideShapes Go.ChangeAt Go.RowKit

attribute [local go_sem ↓] ldR_fold stR_fold in
set_option maxRecDepth 10000 in
set_option maxHeartbeats 2000000 in
theorem pat2_any (A0 : Option Addr) (n0 c0 : Nat) (A1 : Option Addr) (n1 c1 H : Nat) (l0 l1 : List Int) (w : World) (h0 : Rd w H A0 n0 l0) (h1 : Rd w H A1 n1 l1) (hH : H ≤ w.heap.size) (hn0 : n0 ≤ 1048576) (hn1 : n1 ≤ 1048576) (hnc0 : n0 ≤ c0) (hcm0 : c0 ≤ 9223372036854775807) (hnc1 : n1 ≤ c1) (hcm1 : c1 ≤ 9223372036854775807) :
    Calls Tryd.prog 14 #[.slice A0 n0 c0, .slice A1 n1 c1] w fun e w' => e = .returned (.tuple #[.agg (ints (ringP l0)).toArray, .agg (ints (ringP l1)).toArray, .bool (two8 l0 l1)]) ∧ Below w.heap.size w w' := by
  have HR0 := Lib.hid (fun V (hV : Below w.heap.size w V) => readR_any A0 n0 c0 H l0 V (h0.below (hV.mono hH)) (Nat.le_trans hH hV.size) hn0 hnc0 hcm0)
  have HR1 := Lib.hid (fun V (hV : Below w.heap.size w V) => readR_any A1 n1 c1 H l1 V (h1.below (hV.mono hH)) (Nat.le_trans hH hV.size) hn1 hnc1 hcm1)
  have H70 := ringP_length l0
  have H71 := ringP_length l1
  have L0 := h0.len
  have L1 := h1.len
  have HT : Hid (two8 l0 l1 = (ringB l0 && (ringB l1 && decide ((n1 : Int) ≤ (n0 : Int))))) := by
    rw [Hid, two8, ringB, ringB, ← Bool.decide_and, ← Bool.decide_and, decide_eq_decide, Two8, L0, L1]
    exact ⟨fun h => ⟨h.1, h.2.1, by have := h.2.2; omega⟩, fun h => ⟨h.1, h.2.1, by have := h.2.2; omega⟩⟩
  rw [HT.out]
  clear h0 h1 HT L0 L1
  generalize ringB l0 = b0 at *
  generalize ringB l1 = b1 at *
  generalize ringP l0 = P0 at *
  generalize ringP l1 = P1 at *
  obtain ⟨p0, p1, p2, p3, p4, p5, p6, rfl⟩ := seven H70
  obtain ⟨q0, q1, q2, q3, q4, q5, q6, rfl⟩ := seven H71
  have Z0 := new_ring w
  have Z1 := new_ring (w.alloc (.cells #[.int .i64 0, .int .i64 0, .int .i64 0, .int .i64 0, .int .i64 0, .int .i64 0, .int .i64 0] 38))
  have Z2 := Z0.alloc (.cells #[.int .i64 0, .int .i64 0, .int .i64 0, .int .i64 0, .int .i64 0, .int .i64 0, .int .i64 0] 38)
  have BB := ((Below.refl w.heap.size w).alloc (Nat.le_refl _) (.cells #[.int .i64 0, .int .i64 0, .int .i64 0, .int .i64 0, .int .i64 0, .int .i64 0, .int .i64 0] 38)).alloc (by simp) (.cells #[.int .i64 0, .int .i64 0, .int .i64 0, .int .i64 0, .int .i64 0, .int .i64 0, .int .i64 0] 38)
  obtain ⟨W0, hW0⟩ : ∃ W, W = (w.alloc (.cells #[.int .i64 0, .int .i64 0, .int .i64 0, .int .i64 0, .int .i64 0, .int .i64 0, .int .i64 0] 38)).alloc (.cells #[.int .i64 0, .int .i64 0, .int .i64 0, .int .i64 0, .int .i64 0, .int .i64 0, .int .i64 0] 38) := ⟨_, rfl⟩
  rw [← hW0] at Z2 BB
  have hs0 : W0.heap.size = w.heap.size + 2 := by rw [hW0]; simp
  have Z1 : Arr W0 (w.heap.size + 1) zero7 := by rw [hW0]; simpa using Z1
  have HZ1 := Lib.hid Z1
  have HZ2 := Lib.hid Z2
  have HBB := Lib.hid BB
  clear Z0 Z1 Z2 BB
  go_enter Tryd.func14, Tryd.ntmps14
  go_wp2_with fail
  rw [← hW0]
  have HW := Lib.hid hW0
  clear hW0
  generalize hB : w.heap.size = B at *
  have HB := Lib.hid hB
  have HS0 := Lib.hid hs0
  clear hB hs0
  refine (HR0.out W0 HBB.out).mono ?_
  rintro e W1 ⟨rfl, hb1⟩
  have HBB1 : Hid (Below B w W1) := HBB.out.trans (hb1.mono (by have := HS0.out; omega))
  have HY1 := Lib.hid (HZ1.out.below hb1 (by have := HS0.out; omega))
  have HY2 := Lib.hid (HZ2.out.below hb1 (by have := HS0.out; omega))
  have hs1 : B + 2 ≤ W1.heap.size := by have := hb1.size; have := HS0.out; omega
  have HNR := Lib.hid (new_ring W1)
  clear hb1 HZ1 HZ2 HBB HR0 HW
  generalize hG : W1.heap.size = G at *
  go_wp2_with (refine store_ring rfl _ _ rfl G zero7 [p0, p1, p2, p3, p4, p5, p6] rfl rfl (by first | rfl | (rw [← hG]; rfl)) rfl HNR ?_; intro w2 HA2 hg2 hs2)
  have HBB2 : Hid (Below B w w2) := (HBB1.out.alloc (by omega) _).grown hg2 (by simp; omega) (by simp; omega)
  have HX1 := Lib.hid ((HY1.out.alloc (.cells #[.int .i64 0, .int .i64 0, .int .i64 0, .int .i64 0, .int .i64 0, .int .i64 0, .int .i64 0] 38)).grown hg2 (by omega))
  have HX2 := Lib.hid ((HY2.out.alloc (.cells #[.int .i64 0, .int .i64 0, .int .i64 0, .int .i64 0, .int .i64 0, .int .i64 0, .int .i64 0] 38)).grown hg2 (by omega))
  have hs3 : G < w2.heap.size := HA2.out.lt
  clear HNR hg2 hs2 HY1 HY2 HBB1
  refine (HR1.out w2 HBB2.out).mono ?_
  rintro e W3 ⟨rfl, hb3⟩
  have HBB3 : Hid (Below B w W3) := HBB2.out.trans (hb3.mono (by omega))
  have HX13 := Lib.hid (HX1.out.below hb3 HX1.out.lt)
  have HX23 := Lib.hid (HX2.out.below hb3 HX2.out.lt)
  have HA3 := Lib.hid (HA2.out.below hb3 HA2.out.lt)
  have hs4 : G < W3.heap.size := HA3.out.lt
  have HNR := Lib.hid (new_ring W3)
  clear hb3 HX1 HX2 HA2 HBB2 HR1
  generalize hK : W3.heap.size = K at *
  go_wp2_with (refine store_ring rfl _ _ rfl K zero7 [q0, q1, q2, q3, q4, q5, q6] rfl rfl (by first | rfl | (rw [← hK]; rfl)) rfl HNR ?_; intro w4 HC4 hg4 hs4)
  have HBB4 : Hid (Below B w w4) := (HBB3.out.alloc (by omega) _).grown hg4 (by simp; omega) (by simp; omega)
  have HX14 := Lib.hid ((HX13.out.alloc (.cells #[.int .i64 0, .int .i64 0, .int .i64 0, .int .i64 0, .int .i64 0, .int .i64 0, .int .i64 0] 38)).grown hg4 (by omega))
  have HX24 := Lib.hid ((HX23.out.alloc (.cells #[.int .i64 0, .int .i64 0, .int .i64 0, .int .i64 0, .int .i64 0, .int .i64 0, .int .i64 0] 38)).grown hg4 (by omega))
  have HA4 := Lib.hid ((HA3.out.alloc (.cells #[.int .i64 0, .int .i64 0, .int .i64 0, .int .i64 0, .int .i64 0, .int .i64 0, .int .i64 0] 38)).grown hg4 (by omega))
  have hs5 : K < w4.heap.size := HC4.out.lt
  clear HNR hg4 hs4 HX13 HX23 HA3 HBB3
  have HD : Hid (Below B w w4.drew) := HBB4.out.drew
  obtain ⟨W5, r5, a5, g5, s5⟩ := stR_run (Q := [p0, p1, p2, p3, p4, p5, p6]) HX24.out.drew rfl rfl
  have HB5 : Hid (Below B w W5) := HD.out.grown g5 (by simp; omega) (by simp)
  obtain ⟨W6, r6, a6, g6, s6⟩ := stR_run (Q := [q0, q1, q2, q3, q4, q5, q6]) (HX14.out.drew.grown g5 (by omega)) rfl rfl
  have HB6 : Hid (Below B w W6) := HB5.out.grown g6 (by simp at s5; omega) (by simp)
  have HM6 := Lib.hid (a5.grown g6 (by omega))
  have HN6 := Lib.hid a6
  have l1 := ldR_run HA4.out.drew rfl
  have l2 := ldR_run HC4.out.drew rfl
  have l3 := ldR_run (HA4.out.drew.grown g5 (by omega)) rfl
  have l4 := ldR_run (HC4.out.drew.grown g5 (by omega)) rfl
  simp only [ints, List.map_cons, List.map_nil] at r5 r6 l1 l2 l3 l4
  clear a5 g5 s5 a6 g6 s6 HX14 HX24 HA4 HC4 HBB4
  cases b0 with
  | false =>
    go_region
    all_goals
      go_wp2
      exact ret_ring3 rfl B (B + 1) _ _ rfl rfl rfl rfl HM6 HN6 rfl ⟨rfl, by rw [HB.out]; exact HB6.out⟩
  | true =>
    cases b1 with
    | false =>
      go_region
      all_goals
        go_wp2
        exact ret_ring3 rfl B (B + 1) _ _ rfl rfl rfl rfl HM6 HN6 rfl ⟨rfl, by rw [HB.out]; exact HB6.out⟩
    | true =>
      go_region
      all_goals
        go_wp2
        exact ret_ring3 rfl B (B + 1) _ _ rfl rfl rfl rfl HM6 HN6 rfl ⟨by first | rfl | simp, by rw [HB.out]; exact HB6.out⟩

end Go.Proofs.YtphffefkjbgibabDoor
