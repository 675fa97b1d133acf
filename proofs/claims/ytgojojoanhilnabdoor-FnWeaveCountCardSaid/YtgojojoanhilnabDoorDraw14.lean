/- The laws' drawer of two parts that share all points, seldom others. -/
import Derived.Test.YtgojojoanhilnabDoorDR
import Derived.Test.YtgojojoanhilnabDoorWvS
import Derived.OwnWalk
namespace Go.Proofs.YtgojojoanhilnabDoor
open Go.ChangeShapes Go.WideShapes Go.ChangeAt Go.RowKit

theorem below_g6 {w w1 w2 : World} {R : Nat} (h : Below R w w1) (hg : w1.grownBy w2 (some R)) (hR : R < w1.heap.size) : Below R w w2 :=
  h.grown hg (by omega) (by intro k hk; have e : R = k := Option.some.inj hk; omega)
theorem byt_below {w w' : World} {H B n : Nat} {A : Option Addr} (h : Byt w H A n) (hb : Below B w w') (hH : H ≤ B) : Byt w' H A n := h.below (hb.mono hH)

set_option maxRecDepth 10000 in
set_option maxHeartbeats 4000000 in
theorem halves92_any (n c H : Nat) (A : Option Addr) (w : World) (hb : Byt w H A n) (hH : H ≤ w.heap.size) (hnc : n ≤ c) (hc : c ≤ 9223372036854775807) :
    Calls Tryd.prog 30 #[.slice A n c] w fun e w' => ∃ (v v' : Value) (m : Nat) (p q : List Int), e = .returned (.tuple #[.int .i64 (m : Int), v, v']) ∧ NewR w' v p ∧ NewR w' v' q ∧ (3 ≤ m ∧ m ≤ 6) ∧ Below w.heap.size w w' := by
  have HOP := Lib.hid (openS_any n c H A w hb hH hnc hc)
  clear hb
  go_enter Tryd.func30, Tryd.ntmps30
  go_wp2_with fail
  refine HOP.out.mono ?_
  rintro e w1 ⟨rfl, ⟨n', hn', h1, h2⟩, hb1⟩
  generalize hR : w.heap.size = R at *
  have HRq := Lib.hid hR
  have HS := Lib.hid (size91_any R n' c H 0 6 A w1 h1 h2 hH (by omega) hn' (by omega) (by omega))
  have HB1 := Lib.hid hb1
  have HY1 := Lib.hid h2
  have hlt1 := h1.lt
  clear h1 h2 hb1 HOP hR
  go_wp2_with fail
  refine HS.out.mono ?_
  rintro e w2 ⟨⟨z, hz3, hz6, rfl⟩, h1, hg, hs⟩
  have HB2 := Lib.hid (below_g6 HB1.out hg hlt1)
  have HY2 := Lib.hid (HY1.out.grown hg hH)
  have hlt2 := h1.lt
  have HP := Lib.hid (fun (m : Nat) (hm1 : 1 ≤ m) (hm2 : m ≤ 1000) => pick_any R n' c H 1 m A w2 h1 HY2.out hH (by omega) hn' hm1 hm2)
  clear h1 hg hs HS HB1 HY1
  obtain ⟨F, hF⟩ : ∃ F : Nat, F = 2 ^ z := ⟨_, rfl⟩
  have hF8 : 8 ≤ F ∧ F ≤ 64 ∧ wrap64 ((2 : Int) ^ z) = (F : Int) ∧ IntKind.i64.wrap ((2 : Int) ^ z) = (F : Int) := by
    obtain rfl | rfl | rfl | rfl : z = 3 ∨ z = 4 ∨ z = 5 ∨ z = 6 := by omega
    all_goals
      subst hF
      exact ⟨by omega, by omega, by simp [wrap64], by first | rfl | decide⟩
  have HF := Lib.hid hF
  obtain ⟨f8, f64, p4, p5⟩ := hF8
  clear hF
  have HP2 := Lib.hid (HP.out (F - 2) (by omega) (by omega))
  rw [show ((F - 2 : Nat) : Int) = (F : Int) - 2 by omega] at HP2
  have pw2 : IntKind.i64.wrap ((F : Int) - 2) = (F : Int) - 2 := IntWalk.i64_in _ (by omega)
  clear HP
  go_wp2_with (first
    | (go_at_call 39
       refine HPA.out.mono ?_
       rintro e w5 ⟨vp, rfl, hvp, hb5⟩
       have HB5 := Lib.hid (HB4.out.trans (hb5.mono (by omega)))
       have HY5 := Lib.hid (byt_below HY4.out hb5 (by omega))
       have HR5 := Lib.hid (HR4.out.same (hb5.block R hlt4))
       have hlt5 := HR5.out.lt
       obtain ⟨Ap, cp, evp⟩ := hvp.slice
       subst evp
       have HV5 := Lib.hid hvp.rowV5
       have hRp : R < w4.heap.size := hlt4
       clear HPA HB4 HY4 HR4 hvp hb5
       obtain ⟨np, hnp⟩ : ∃ np, np = P.length := ⟨_, rfl⟩
       rw [← hnp] at HV5 hpl ⊢
       have HNP := Lib.hid hnp
       clear hnp
       have HO5 := Lib.hid (of91t_any R n' c H q4 z A w5.drew HR5.out HY5.out hH (by omega) hn' (by omega) (by omega))
       obtain ⟨t, ht⟩ : ∃ t, t = F - 1 - s := ⟨_, rfl⟩
       have pf1 : IntKind.i64.wrap ((F : Int) - 1) = (F : Int) - 1 := IntWalk.i64_in _ (by omega)
       have pf2 : IntKind.i64.wrap ((F : Int) - 1 - (s : Int)) = (t : Int) := by
         rw [IntWalk.i64_in _ (by omega)]
         omega
       have ht0 : 0 < t := by omega
       have ht1 : t < F := by omega
       clear ht)
    | (go_at_call 37
       refine HO3.out.mono ?_
       rintro e w4 ⟨va, la, q4, rfl, hva, ⟨hla, hofa, h1, hq4⟩, hg⟩
       have HB4 := Lib.hid (below_g6 HB3.out hg hlt3)
       have HY4 := Lib.hid (HY3.out.grown hg hH)
       have hlt4 := h1.lt
       have HR4 := Lib.hid h1
       obtain ⟨Aa, ca, eva⟩ := hva.slice
       subst eva
       have hra := ofL_ring hla hofa hz3 (by omega)
       have HPA := Lib.hid (partS_any Aa la.length ca w4.heap.size la s w4 hva.rd.2 (Nat.le_refl _) hra.1 hs0 (by rw [hla, ← HF.out]; omega))
       have hpl : (partL la s).length ≤ 7 := Nat.le_trans (part_length la s) (by omega)
       rw [hla] at HPA ⊢
       clear HO3 HB3 HY3 h1 hg hva hra hofa hla
       generalize partL la s = P at *)
    | (go_at_call 38
       refine HP2.out.mono ?_
       rintro e w3 ⟨⟨v3, hv3, rfl⟩, h1, hg, h3⟩
       obtain ⟨s, hs⟩ : ∃ s, s = v3 + 1 := ⟨_, rfl⟩
       have ps : IntKind.i64.wrap (1 + (v3 : Int)) = (s : Int) := by
         rw [IntWalk.i64_in _ (by omega)]
         omega
       have hs0 : 0 < s := by omega
       have hs1 : s + 1 < F := by omega
       clear hs
       have HB3 := Lib.hid (below_g6 HB2.out hg hlt2)
       have HY3 := Lib.hid (HY2.out.grown hg hH)
       have hlt3 := h1.lt
       have HO3 := Lib.hid (of91t_any R n' c H 2 z A w3 h1 HY3.out hH (by omega) hn' (by omega) (by omega))
       clear h1 hg h3 HB2 HY2 HP2 pw2))
  have HV5d : Hid (RowV w5.drew w4.heap.size (.slice Ap np cp) P) := HV5.out
  have HB5d : Hid (Below R w w5.drew) := HB5.out.drew
  have HY5d : Hid (Byt w5.drew H A n') := HY5.out
  have hlt5d : R < w5.drew.heap.size := hlt5
  clear HV5 HB5 HY5 HR5
  go_region_with (first
    | (go_at_call 39
       refine HPB.out.mono ?_
       rintro e w7 ⟨vq, rfl, hvq, hb7⟩
       have HB7 := Lib.hid (HB6.out.trans (hb7.mono (by omega)))
       have HY7 := Lib.hid (byt_below HY6.out hb7 (by omega))
       have HR7 := Lib.hid (HR6.out.same (hb7.block R hlt6))
       have HV7 := Lib.hid (HV6.out.below5 hb7)
       have hlt7 := HR7.out.lt
       obtain ⟨Aq, cq, evq⟩ := hvq.slice
       subst evq
       have HW7 := Lib.hid hvq.rowV5
       have hRq : R < w6.heap.size := hlt6
       obtain ⟨nq, hnq⟩ : ∃ nq, nq = Q.length := ⟨_, rfl⟩
       rw [← hnq] at HW7 hql ⊢
       have HNQ := Lib.hid hnq
       clear hnq hvq hb7
       clear HPB)
    | (go_at_call 37
       refine HO5.out.mono ?_
       rintro e w6 ⟨vb, lb, q6, rfl, hvb, ⟨hlb, hofb, h1, hq6⟩, hg⟩
       have HB6 := Lib.hid (below_g6 HB5d.out hg hlt5d)
       have HY6 := Lib.hid (HY5d.out.grown hg hH)
       have hlt6 := h1.lt
       have HR6 := Lib.hid h1
       have HV6 := Lib.hid (HV5d.out.grown5 hg hRp)
       obtain ⟨Ab, cb, evb⟩ := hvb.slice
       subst evb
       have hrb := ofL_ring hlb hofb hz3 (by omega)
       have HPB := Lib.hid (partS_any Ab lb.length cb w6.heap.size lb t w6 hvb.rd.2 (Nat.le_refl _) hrb.1 ht0 (by rw [hlb, ← HF.out]; omega))
       have hql : (partL lb t).length ≤ 7 := Nat.le_trans (part_length lb t) (by omega)
       rw [hlb] at HPB ⊢
       clear h1 hg hvb hrb hofb hlb HO5
       generalize partL lb t = Q at *))
  have HQ := Lib.hid (pick_any R n' c H q6 24 A w7 HR7.out HY7.out hH (by omega) hn' (by omega) (by omega))
  go_wp2_with (first | (go_at_call 38
                        refine HQ.out.mono ?_
                        rintro e w8 ⟨⟨v8, hv8, rfl⟩, h1, hg, h3⟩
                        have HB8 := Lib.hid (below_g6 HB7.out hg hlt7)
                        have HV8 := Lib.hid (HV7.out.grown5 hg hRp)
                        have HW8 := Lib.hid (HW7.out.grown5 hg hRq)
                        clear h1 hg HB7 HV7 HW7 h3
                        obtain rfl | ⟨hv0, hv1⟩ : v8 = 0 ∨ (0 < v8 ∧ ¬ ((v8 : Int) = 0)) := by omega))
  · go_ret3
    exact ⟨_, _, z, _, _, rfl, HV8.out.newR (by rw [← HNP.out]; exact hpl), HV8.out.newR (by rw [← HNP.out]; exact hpl), ⟨hz3, hz6⟩, by rw [HRq.out]; exact HB8.out⟩
  · go_ret3
    exact ⟨_, _, z, _, _, rfl, HV8.out.newR (by rw [← HNP.out]; exact hpl), HW8.out.newR (by rw [← HNQ.out]; exact hql), ⟨hz3, hz6⟩, by rw [HRq.out]; exact HB8.out⟩

end Go.Proofs.YtgojojoanhilnabDoor
