/- TwoR rings of as many points read: readTwo. -/
import Derived.Test.YtamnacgclhaggabMA
import Derived.Test.YtamnacgclhaggabFold
import Derived.StillTailTactics
import Derived.BigRegion
namespace Go.Proofs.Ytamnacgclhaggab
open Go.ChangeShapes Go.WideShapes Go.ChangeAt Go.RowKit

/-- TwoR rings of as many points. -/
def TwoR (a b : List Int) : Prop := Ring a ∧ Ring b ∧ a.length = b.length
instance (a b : List Int) : Decidable (TwoR a b) := inferInstanceAs (Decidable (_ ∧ _))
def twoB (a b : List Int) : Bool := decide (TwoR a b)
theorem twoYes {a b : List Int} (h : TwoR a b) : twoB a b = true := by simpa [twoB] using h
theorem twoNo {a b : List Int} (h : ¬ TwoR a b) : twoB a b = false := by simpa [twoB] using h

theorem results_ring3 {fn : Func} {p q t : Tmp} (h : fn.results = #[.cell p 50, .cell q 50, .tmp t]) (tmps : Array Value) (w : World) (g g' : Nat) (P Q : List Int) (hP : P.length = 7) (hQ : Q.length = 7)
    (hp : tmps.getD p undef = .pointer (some ⟨g, 0, none⟩)) (hq : tmps.getD q undef = .pointer (some ⟨g', 0, none⟩)) (hg : Arr w g P) (hg' : Arr w g' Q) :
    (results fn tmps).run Try.prog w = .ok (.tuple #[.agg (ints P).toArray, .agg (ints Q).toArray, tmps.getD t undef]) w := by
  have hp' : tmps[p]?.getD undef = .pointer (some ⟨g, 0, none⟩) := by simpa using hp
  have hq' : tmps[q]?.getD undef = .pointer (some ⟨g', 0, none⟩) := by simpa using hq
  simp [results, h, hp', hq', asAddr, run_loadVar_row (P := Try.prog) w g 50 50 _ (0, 0) _ hg Try.underlying50 rfl (by rw [ring_size]; simp [hP]), run_loadVar_row (P := Try.prog) w g' 50 50 _ (0, 0) _ hg' Try.underlying50 rfl (by rw [ring_size]; simp [hQ])]
theorem ret_ring3 {fn : Func} {R : Ending → World → Prop} {a : Act} {w : World} {p q t : Tmp} (h : fn.results = #[.cell p 50, .cell q 50, .tmp t]) (g g' : Nat) (P Q : List Int) (hP : P.length = 7) (hQ : Q.length = 7) (hp : a.tmps.getD p undef = .pointer (some ⟨g, 0, none⟩))
    (hq : a.tmps.getD q undef = .pointer (some ⟨g', 0, none⟩)) (hg : Hid (Arr w g P)) (hg' : Hid (Arr w g' Q)) (hd : a.defers = []) (hR : R (.returned (.tuple #[.agg (ints P).toArray, .agg (ints Q).toArray, a.tmps.getD t undef])) w) : bodyPost Try.prog fn R .ret a w :=
  bodyPost_ret (results_ring3 h _ _ g g' P Q hP hQ hp hq hg.out hg'.out) hd hR

attribute [local go_sem ↓] ldR_fold stR_fold in
set_option maxRecDepth 10000 in
set_option maxHeartbeats 2000000 in
theorem two_any (A0 : Option Addr) (n0 c0 : Nat) (A1 : Option Addr) (n1 c1 H : Nat) (l0 l1 : List Int) (w : World) (h0 : Rd w H A0 n0 l0) (h1 : Rd w H A1 n1 l1) (hH : H ≤ w.heap.size) (hn0 : n0 ≤ 1048576) (hn1 : n1 ≤ 1048576) (hnc0 : n0 ≤ c0) (hcm0 : c0 ≤ 9223372036854775807) (hnc1 : n1 ≤ c1) (hcm1 : c1 ≤ 9223372036854775807) :
    Calls Try.prog 74 #[.slice A0 n0 c0, .slice A1 n1 c1] w fun e w' => e = .returned (.tuple #[.agg (ints (ringP l0)).toArray, .agg (ints (ringP l1)).toArray, .bool (twoB l0 l1)]) ∧ Below w.heap.size w w' := by
  have HR0 := Lib.hid (fun V (hV : Below w.heap.size w V) => readR_any A0 n0 c0 H l0 V (h0.below (hV.mono hH)) (Nat.le_trans hH hV.size) hn0 hnc0 hcm0)
  have HR1 := Lib.hid (fun V (hV : Below w.heap.size w V) => readR_any A1 n1 c1 H l1 V (h1.below (hV.mono hH)) (Nat.le_trans hH hV.size) hn1 hnc1 hcm1)
  have H70 := ringP_length l0
  have H71 := ringP_length l1
  have L0 := h0.len
  have L1 := h1.len
  have HT : Hid (twoB l0 l1 = (ringB l0 && (ringB l1 && decide ((n0 : Int) = (n1 : Int))))) := by
    rw [Hid, twoB, ringB, ringB, ← Bool.decide_and, ← Bool.decide_and, decide_eq_decide, TwoR, L0, L1]
    exact ⟨fun h => ⟨h.1, h.2.1, by have := h.2.2; omega⟩, fun h => ⟨h.1, h.2.1, by have := h.2.2; omega⟩⟩
  rw [HT.out]
  clear h0 h1 HT L0 L1
  generalize ringB l0 = b0 at *
  generalize ringB l1 = b1 at *
  generalize ringP l0 = P0 at *
  generalize ringP l1 = P1 at *
  obtain ⟨p0, p1, p2, p3, p4, p5, p6, rfl⟩ := seven H70
  obtain ⟨q0, q1, q2, q3, q4, q5, q6, rfl⟩ := seven H71
  have Z0 := new_ring w
  have Z1 := new_ring (w.alloc (.cells #[.int .i64 0, .int .i64 0, .int .i64 0, .int .i64 0, .int .i64 0, .int .i64 0, .int .i64 0] 50))
  have Z2 := Z0.alloc (.cells #[.int .i64 0, .int .i64 0, .int .i64 0, .int .i64 0, .int .i64 0, .int .i64 0, .int .i64 0] 50)
  have BB := ((Below.refl w.heap.size w).alloc (Nat.le_refl _) (.cells #[.int .i64 0, .int .i64 0, .int .i64 0, .int .i64 0, .int .i64 0, .int .i64 0, .int .i64 0] 50)).alloc (by simp) (.cells #[.int .i64 0, .int .i64 0, .int .i64 0, .int .i64 0, .int .i64 0, .int .i64 0, .int .i64 0] 50)
  obtain ⟨W0, hW0⟩ : ∃ W, W = (w.alloc (.cells #[.int .i64 0, .int .i64 0, .int .i64 0, .int .i64 0, .int .i64 0, .int .i64 0, .int .i64 0] 50)).alloc (.cells #[.int .i64 0, .int .i64 0, .int .i64 0, .int .i64 0, .int .i64 0, .int .i64 0, .int .i64 0] 50) := ⟨_, rfl⟩
  rw [← hW0] at Z2 BB
  have hs0 : W0.heap.size = w.heap.size + 2 := by rw [hW0]; simp
  have Z1 : Arr W0 (w.heap.size + 1) zero7 := by rw [hW0]; simpa using Z1
  have HZ1 := Lib.hid Z1
  have HZ2 := Lib.hid Z2
  have HBB := Lib.hid BB
  clear Z0 Z1 Z2 BB
  go_enter Try.func74, Try.ntmps74
  go_wp2_with fail
  rw [← hW0]
  have HW := Lib.hid hW0
  clear hW0
  generalize hB : w.heap.size = B at *
  have HB := Lib.hid hB
  have HS0 := Lib.hid hs0
  clear hB hs0
  refine (HR0.out W0 HBB.out).mono ?_
  rintro e W1 ⟨rfl, hb1⟩
  have HBB1 : Hid (Below B w W1) := HBB.out.trans (hb1.mono (by have := HS0.out; omega))
  have HY1 := Lib.hid (HZ1.out.below hb1 (by have := HS0.out; omega))
  have HY2 := Lib.hid (HZ2.out.below hb1 (by have := HS0.out; omega))
  have hs1 : B + 2 ≤ W1.heap.size := by have := hb1.size; have := HS0.out; omega
  have HNR := Lib.hid (new_ring W1)
  clear hb1 HZ1 HZ2 HBB HR0 HW
  generalize hG : W1.heap.size = G at *
  go_wp2_with (refine store_ring rfl _ _ rfl G zero7 [p0, p1, p2, p3, p4, p5, p6] rfl rfl (by first | rfl | (rw [← hG]; rfl)) rfl HNR ?_; intro w2 HA2 hg2 hs2)
  have HBB2 : Hid (Below B w w2) := (HBB1.out.alloc (by omega) _).grown hg2 (by simp; omega) (by simp; omega)
  have HX1 := Lib.hid ((HY1.out.alloc (.cells #[.int .i64 0, .int .i64 0, .int .i64 0, .int .i64 0, .int .i64 0, .int .i64 0, .int .i64 0] 50)).grown hg2 (by omega))
  have HX2 := Lib.hid ((HY2.out.alloc (.cells #[.int .i64 0, .int .i64 0, .int .i64 0, .int .i64 0, .int .i64 0, .int .i64 0, .int .i64 0] 50)).grown hg2 (by omega))
  have hs3 : G < w2.heap.size := HA2.out.lt
  clear HNR hg2 hs2 HY1 HY2 HBB1
  refine (HR1.out w2 HBB2.out).mono ?_
  rintro e W3 ⟨rfl, hb3⟩
  have HBB3 : Hid (Below B w W3) := HBB2.out.trans (hb3.mono (by omega))
  have HX13 := Lib.hid (HX1.out.below hb3 HX1.out.lt)
  have HX23 := Lib.hid (HX2.out.below hb3 HX2.out.lt)
  have HA3 := Lib.hid (HA2.out.below hb3 HA2.out.lt)
  have hs4 : G < W3.heap.size := HA3.out.lt
  have HNR := Lib.hid (new_ring W3)
  clear hb3 HX1 HX2 HA2 HBB2 HR1
  generalize hK : W3.heap.size = K at *
  go_wp2_with (refine store_ring rfl _ _ rfl K zero7 [q0, q1, q2, q3, q4, q5, q6] rfl rfl (by first | rfl | (rw [← hK]; rfl)) rfl HNR ?_; intro w4 HC4 hg4 hs4)
  have HBB4 : Hid (Below B w w4) := (HBB3.out.alloc (by omega) _).grown hg4 (by simp; omega) (by simp; omega)
  have HX14 := Lib.hid ((HX13.out.alloc (.cells #[.int .i64 0, .int .i64 0, .int .i64 0, .int .i64 0, .int .i64 0, .int .i64 0, .int .i64 0] 50)).grown hg4 (by omega))
  have HX24 := Lib.hid ((HX23.out.alloc (.cells #[.int .i64 0, .int .i64 0, .int .i64 0, .int .i64 0, .int .i64 0, .int .i64 0, .int .i64 0] 50)).grown hg4 (by omega))
  have HA4 := Lib.hid ((HA3.out.alloc (.cells #[.int .i64 0, .int .i64 0, .int .i64 0, .int .i64 0, .int .i64 0, .int .i64 0, .int .i64 0] 50)).grown hg4 (by omega))
  have hs5 : K < w4.heap.size := HC4.out.lt
  clear HNR hg4 hs4 HX13 HX23 HA3 HBB3
  have HD : Hid (Below B w w4.drew) := HBB4.out.drew
  obtain ⟨W5, r5, a5, g5, s5⟩ := stR_run (Q := [p0, p1, p2, p3, p4, p5, p6]) HX24.out.drew rfl rfl
  have HB5 : Hid (Below B w W5) := HD.out.grown g5 (by simp; omega) (by simp)
  obtain ⟨W6, r6, a6, g6, s6⟩ := stR_run (Q := [q0, q1, q2, q3, q4, q5, q6]) (HX14.out.drew.grown g5 (by omega)) rfl rfl
  have HB6 : Hid (Below B w W6) := HB5.out.grown g6 (by simp at s5; omega) (by simp)
  have HM6 := Lib.hid (a5.grown g6 (by omega))
  have HN6 := Lib.hid a6
  have l1 := ldR_run HA4.out.drew rfl
  have l2 := ldR_run HC4.out.drew rfl
  have l3 := ldR_run (HA4.out.drew.grown g5 (by omega)) rfl
  have l4 := ldR_run (HC4.out.drew.grown g5 (by omega)) rfl
  simp only [ints, List.map_cons, List.map_nil] at r5 r6 l1 l2 l3 l4
  clear a5 g5 s5 a6 g6 s6 HX14 HX24 HA4 HC4 HBB4
  cases b0 with
  | false =>
    go_region
    all_goals
      go_wp2
      exact ret_ring3 rfl B (B + 1) _ _ rfl rfl rfl rfl HM6 HN6 rfl ⟨rfl, by rw [HB.out]; exact HB6.out⟩
  | true =>
    cases b1 with
    | false =>
      go_region
      all_goals
        go_wp2
        exact ret_ring3 rfl B (B + 1) _ _ rfl rfl rfl rfl HM6 HN6 rfl ⟨rfl, by rw [HB.out]; exact HB6.out⟩
    | true =>
      go_region
      all_goals
        go_wp2
        exact ret_ring3 rfl B (B + 1) _ _ rfl rfl rfl rfl HM6 HN6 rfl ⟨by first | rfl | simp, by rw [HB.out]; exact HB6.out⟩

/-- TwoR new variables of rings, with a ring in each. -/
theorem new_two (W : World) (P Q : List Int) (hP : P.length = 7) (hQ : Q.length = 7) :
    ∃ V1 V, (stR ⟨W.heap.size, 0, none⟩ (.agg (ints P).toArray)).run Try.prog ((W.alloc (.cells #[.int .i64 0, .int .i64 0, .int .i64 0, .int .i64 0, .int .i64 0, .int .i64 0, .int .i64 0] 50)).alloc (.cells #[.int .i64 0, .int .i64 0, .int .i64 0, .int .i64 0, .int .i64 0, .int .i64 0, .int .i64 0] 50)) = .ok () V1 ∧
      (stR ⟨W.heap.size + 1, 0, none⟩ (.agg (ints Q).toArray)).run Try.prog V1 = .ok () V ∧ Arr V W.heap.size P ∧ Arr V (W.heap.size + 1) Q ∧ Below W.heap.size W V ∧ V.heap.size = W.heap.size + 2 := by
  have N1 : Arr ((W.alloc (.cells #[.int .i64 0, .int .i64 0, .int .i64 0, .int .i64 0, .int .i64 0, .int .i64 0, .int .i64 0] 50)).alloc (.cells #[.int .i64 0, .int .i64 0, .int .i64 0, .int .i64 0, .int .i64 0, .int .i64 0, .int .i64 0] 50)) W.heap.size zero7 := (new_ring W).alloc _
  have N2 : Arr ((W.alloc (.cells #[.int .i64 0, .int .i64 0, .int .i64 0, .int .i64 0, .int .i64 0, .int .i64 0, .int .i64 0] 50)).alloc (.cells #[.int .i64 0, .int .i64 0, .int .i64 0, .int .i64 0, .int .i64 0, .int .i64 0, .int .i64 0] 50)) (W.heap.size + 1) zero7 := by
    have := new_ring (W.alloc (.cells #[.int .i64 0, .int .i64 0, .int .i64 0, .int .i64 0, .int .i64 0, .int .i64 0, .int .i64 0] 50))
    simpa using this
  have hb : Below W.heap.size W ((W.alloc (.cells #[.int .i64 0, .int .i64 0, .int .i64 0, .int .i64 0, .int .i64 0, .int .i64 0, .int .i64 0] 50)).alloc (.cells #[.int .i64 0, .int .i64 0, .int .i64 0, .int .i64 0, .int .i64 0, .int .i64 0, .int .i64 0] 50)) := ((Below.refl _ _).alloc (Nat.le_refl _) _).alloc (by simp) _
  have hs : ((W.alloc (.cells #[.int .i64 0, .int .i64 0, .int .i64 0, .int .i64 0, .int .i64 0, .int .i64 0, .int .i64 0] 50)).alloc (.cells #[.int .i64 0, .int .i64 0, .int .i64 0, .int .i64 0, .int .i64 0, .int .i64 0, .int .i64 0] 50)).heap.size = W.heap.size + 2 := by simp
  generalize (W.alloc (.cells #[.int .i64 0, .int .i64 0, .int .i64 0, .int .i64 0, .int .i64 0, .int .i64 0, .int .i64 0] 50)).alloc (.cells #[.int .i64 0, .int .i64 0, .int .i64 0, .int .i64 0, .int .i64 0, .int .i64 0, .int .i64 0] 50) = W2 at *
  obtain ⟨V1, r1, a1, g1, s1⟩ := stR_run (Q := P) N1 rfl hP
  obtain ⟨V, r2, a2, g2, s2⟩ := stR_run (Q := Q) (N2.grown g1 (by omega)) rfl hQ
  exact ⟨V1, V, r1, r2, a1.grown g2 (by omega), a2, (hb.grown g1 (by omega) (by simp)).grown g2 (by omega) (by simp), by omega⟩
end Go.Proofs.Ytamnacgclhaggab
