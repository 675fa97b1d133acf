/- The laws' drawers of a part: beside a number (WeaveIn), beside a ring (WeaveHas). -/
import Derived.Test.YtgojojoanhilnaaDoorDraw46
import Derived.Test.YtgojojoanhilnaaDoorDR
namespace Go.Proofs.YtgojojoanhilnaaDoor
open Go.ChangeShapes Go.WideShapes Go.ChangeAt Go.RowKit

/-- A short slice at hand, of any capacity. -/
def RwP (w : World) (A : Option Addr) (n c : Nat) (l : List Int) : Prop := Rd w w.heap.size A n l ∧ n ≤ c ∧ c ≤ 9223372036854775807 ∧ n ≤ 8
def NewP (w : World) (v : Value) (l : List Int) : Prop := ∃ A n c, v = .slice A n c ∧ RwP w A n c l
theorem RwP.step {w w' : World} {A : Option Addr} {n c : Nat} {l : List Int} (h : RwP w A n c l) (k : Below w.heap.size w w') : RwP w' A n c l := ⟨(h.1.below k).more k.size, h.2⟩
theorem RwP.rd {w : World} {A : Option Addr} {n c : Nat} {l : List Int} (h : RwP w A n c l) : Rd w w.heap.size A n l := h.1
theorem RwP.big {w : World} {A : Option Addr} {n c : Nat} {l : List Int} (h : RwP w A n c l) : n ≤ 1048576 := by have := h.2.2.2; omega
theorem RwP.len {w : World} {A : Option Addr} {n c : Nat} {l : List Int} (h : RwP w A n c l) : l.length = n := h.1.len
theorem RowV.newP {w : World} {B : Nat} {v : Value} {l : List Int} (h : RowV w B v l) (h8 : l.length ≤ 8) : NewP w v l := by
  obtain ⟨hg, A, c, e, hc, hm⟩ := h
  subst e
  exact ⟨A, _, c, rfl, hg.rd.2, hc, hm, h8⟩

set_option maxRecDepth 10000 in
set_option maxHeartbeats 2000000 in
theorem drawWeaveIn_any (n c H : Nat) (A : Option Addr) (w : World) (hb : Byt w H A n) (hH : H ≤ w.heap.size) (hnc : n ≤ c) (hc : c ≤ 9223372036854775807) :
    Calls Tryd.prog 6 #[.slice A n c] w fun e w' => ∃ (v : Value) (m : Nat) (p : List Int), e = .returned (.tuple #[.int .i64 (m : Int), v]) ∧ NewP w' v p ∧ (3 ≤ m ∧ m ≤ 10) ∧ Below w.heap.size w w' := by
  have HOP := Lib.hid (openS_any n c H A w hb hH hnc hc)
  clear hb
  go_enter Tryd.func6, Tryd.ntmps6
  go_wp2_with fail
  refine HOP.out.mono ?_
  rintro e w1 ⟨rfl, ⟨n', hn', h1, h2⟩, hb1⟩
  generalize hR : w.heap.size = R at *
  have HRq := Lib.hid hR
  have HS := Lib.hid (size91_any R n' c H 0 6 A w1 h1 h2 hH (by omega) hn' (by omega) (by omega))
  have HB1 := Lib.hid hb1
  have HY1 := Lib.hid h2
  have hlt1 := h1.lt
  clear h1 h2 hb1 HOP hR
  go_wp2_with fail
  refine HS.out.mono ?_
  rintro e w2 ⟨⟨z, hz3, hz6, rfl⟩, h1, hg, hs⟩
  have HB2 := Lib.hid (below_g6 HB1.out hg hlt1)
  have HY2 := Lib.hid (HY1.out.grown hg hH)
  have hlt2 := h1.lt
  have HP := Lib.hid (pick_any R n' c H 1 24 A w2 h1 HY2.out hH (by omega) hn' (by omega) (by omega))
  clear h1 hg hs HS HB1 HY1
  go_wp2_with (first
    | (go_at_call 21
       refine HP.out.mono ?_
       rintro e w3 ⟨⟨v3, hv3, rfl⟩, h1, hg, h3s⟩
       have HB3 := Lib.hid (below_g6 HB2.out hg hlt2)
       have HY3 := Lib.hid (HY2.out.grown hg hH)
       have hlt3 := h1.lt
       obtain ⟨q5, hq5⟩ : ∃ q5, q5 = v3 / 23 := ⟨_, rfl⟩
       have t5 : Int.tdiv (v3 : Int) 23 = (q5 : Int) := by rw [Int.tdiv_eq_ediv_of_nonneg (by omega), hq5]; simp
       have k5 : q5 ≤ 1 := by omega
       have x5 : IntKind.i64.wrap (q5 : Int) = (q5 : Int) := IntWalk.i64_in _ (by omega)
       have y5 : IntKind.i64.wrap ((q5 : Int) * 4) = (q5 : Int) * 4 := IntWalk.i64_in _ (by omega)
       have z5 : IntKind.i64.wrap ((z : Int) + (q5 : Int) * 4) = (z : Int) + (q5 : Int) * 4 := IntWalk.i64_in _ (by omega)
       have HPT := Lib.hid (part92_any R n' c H 2 z A w3 h1 HY3.out hH (by omega) hn' hz3 (by omega))
       clear h1 hg h3s HB2 HP HY2 hq5)
    | (go_at_call 22
       refine HPT.out.mono ?_
       rintro e w4 ⟨v4, p4, q4, rfl, hrv, hpl, ⟨h1, hq4⟩, hg⟩
       have HB4 := Lib.hid (below_g6 HB3.out hg hlt3)
       have HV4 := Lib.hid hrv
       obtain ⟨A4, c4, e4, hc4, hcm4⟩ := hrv.2
       subst e4
       clear h1 hg hrv HB3 HPT HY3))
  go_ret2
  exact ⟨_, z + q5 * 4, p4, by rw [show ((z + q5 * 4 : Nat) : Int) = (z : Int) + (q5 : Int) * 4 by omega]; rfl, HV4.out.newP (by omega), ⟨by omega, by omega⟩, by rw [HRq.out]; exact HB4.out⟩

set_option maxRecDepth 10000 in
set_option maxHeartbeats 2000000 in
theorem drawWeaveHas_any (n c H : Nat) (A : Option Addr) (w : World) (hb : Byt w H A n) (hH : H ≤ w.heap.size) (hnc : n ≤ c) (hc : c ≤ 9223372036854775807) :
    Calls Tryd.prog 11 #[.slice A n c] w fun e w' => ∃ (v v' : Value) (l p : List Int), e = .returned (.tuple #[v, v']) ∧ NewR w' v l ∧ NewP w' v' p ∧ Below w.heap.size w w' := by
  have HOP := Lib.hid (openS_any n c H A w hb hH hnc hc)
  clear hb
  go_enter Tryd.func11, Tryd.ntmps11
  go_wp2_with fail
  refine HOP.out.mono ?_
  rintro e w1 ⟨rfl, ⟨n', hn', h1, h2⟩, hb1⟩
  generalize hR : w.heap.size = R at *
  have HRq := Lib.hid hR
  have HRG := Lib.hid (ring91_any R n' c H 0 6 A w1 h1 h2 hH (by omega) hn' (by omega) (by omega))
  have HB1 := Lib.hid hb1
  have HY1 := Lib.hid h2
  have hlt := h1.lt
  clear h1 h2 hb1 HOP hR
  go_wp2_with fail
  refine HRG.out.mono ?_
  rintro e w2 ⟨v, l, q, rfl, hv, ⟨hl, h1, hq⟩, hg⟩
  have HB2 := Lib.hid (below_g6 HB1.out hg hlt)
  have HY2 := Lib.hid (HY1.out.grown hg hH)
  obtain ⟨Av, cv, ev, hcv1, hcv2⟩ := hv.2
  subst ev
  have HV2 := Lib.hid hv
  have hlt2 := h1.lt
  have hs2 := hg.size
  have HRI := Lib.hid (ringS_any Av l.length cv w2.heap.size l w2 hv.1.rd.2 (by omega))
  have HRd := Lib.hid (fun (W : World) (hW : w2.grownBy W (some R)) => (HV2.out.grown5 hW hlt).1.rd.2)
  have HP := Lib.hid (fun (m : Nat) (hm1 : 1 ≤ m) (hm2 : m ≤ 1000) => pick_any R n' c H q m A w2 h1 HY2.out hH (by omega) hn' hm1 hm2)
  have HPT := Lib.hid (fun (m : Nat) (h3 : 3 ≤ m) (h7 : m ≤ 7) => part92_any R n' c H q m A w2 h1 HY2.out hH (by omega) hn' h3 h7)
  have HPU := Lib.hid (fun (W : World) (q' m : Nat) (k1 : RdAt W R A n' c q') (k2 : Byt W H A n') (hq' : q' ≤ 100) (h3 : 3 ≤ m) (h7 : m ≤ 7) => part92_any R n' c H q' m A W k1 k2 hH (by omega) hn' h3 h7)
  have hz2 := hq.2
  have hq20 := hq.1
  obtain ⟨z, hz⟩ : ∃ z, z = l.length := ⟨_, rfl⟩
  rw [← hz] at hl hz2 hcv1 HRI HRd ⊢
  have HV2 : Hid (RowV w2 w1.heap.size (.slice Av z cv) l) := by rw [hz]; exact HV2.out
  have HZ := Lib.hid hz
  have FIN : Hid (∀ (W : World) (v' : Value) (p : List Int), w2.grownBy W (some R) → NewP W v' p → ∃ (v v'' : Value) (l' p' : List Int), Ending.returned (.tuple #[.slice Av z cv, v']) = .returned (.tuple #[v, v'']) ∧ NewR W v l' ∧ NewP W v'' p' ∧ Below w.heap.size w W) := fun W v' p hW hp =>
    ⟨_, _, l, p, rfl, (HV2.out.grown5 hW hlt).newR (by rw [← HZ.out]; exact hl), hp, by rw [HRq.out]; exact below_g6 HB2.out hW hlt2⟩
  clear hv h1 hg HB1 HRG HY1 hz hq
  cases hrb : ringB l with
  | false =>
    rw [hrb] at HRI
    clear HP HRd
    obtain rfl | ⟨h3, hm3⟩ : z = 2 ∨ (3 ≤ z ∧ max (3 : Int) (z : Int) = (z : Int)) := by omega
    · have HPC := Lib.hid (HPT.out 3 (by omega) (by omega))
      rw [show ((3 : Nat) : Int) = 3 from rfl] at HPC
      clear HPT HPU
      go_wp2_with (first
        | (go_at_call 28; refine HRI.out.mono ?_; rintro e w' ⟨rfl, rfl⟩)
        | (go_at_call 22
           refine HPC.out.mono ?_
           rintro e w4 ⟨v4, p4, q4, rfl, hrv, hpl, ⟨h1, hq4⟩, hg⟩
           have HG4 := Lib.hid hg
           have HV4 := Lib.hid hrv
           clear h1 hg hrv HPC))
      go_ret2
      exact FIN.out _ _ _ HG4.out (HV4.out.newP (by omega))
    · have HPC := Lib.hid (HPT.out z h3 (by omega))
      clear HPT HPU
      go_wp2_with (first
        | (go_at_call 28; refine HRI.out.mono ?_; rintro e w' ⟨rfl, rfl⟩)
        | (go_at_call 22
           refine HPC.out.mono ?_
           rintro e w4 ⟨v4, p4, q4, rfl, hrv, hpl, ⟨h1, hq4⟩, hg⟩
           have HG4 := Lib.hid hg
           have HV4 := Lib.hid hrv
           clear h1 hg hrv HPC))
      go_ret2
      exact FIN.out _ _ _ HG4.out (HV4.out.newP (by omega))
  | true =>
    rw [hrb] at HRI
    have hring : Ring l := by simpa [ringB] using hrb
    have h3 : 3 ≤ z := by rw [HZ.out]; exact hring.1.1
    have hm3 : max (3 : Int) (z : Int) = (z : Int) := by omega
    obtain ⟨F, hF, f8, f128, hp45⟩ := two_pow7 z h3 hl
    have HF := Lib.hid hF
    have HP45 := Lib.hid hp45
    clear hF hp45
    have HPS := Lib.hid (fun (W : World) (s : Nat) (hW : w2.grownBy W (some R)) (hs0 : 0 < s) (hs : s < F) => partS_any Av z cv W.heap.size l s W (HRd.out W hW) (Nat.le_refl _) hring.1 hs0 (by rw [← HZ.out, ← HF.out]; exact hs))
    have HPL := Lib.hid (fun s : Nat => Nat.le_trans (part_length l s) (by rw [← HZ.out]; exact hl : l.length ≤ 7))
    have HP2 := Lib.hid (HP.out 2 (by omega) (by omega))
    rw [show ((2 : Nat) : Int) = 2 from rfl] at HP2
    have pw2 : IntKind.i64.wrap ((F : Int) - 1) = (F : Int) - 1 := IntWalk.i64_in _ (by omega)
    clear HP HF hrb hring HPT HRd
    go_wp2_with (first
      | (go_at_call 28; refine HRI.out.mono ?_; rintro e w' ⟨rfl, rfl⟩)
      | (go_at_call 29
         revert HPC; intro HPC
         refine HPC.out.mono ?_
         rintro e w5 ⟨vp, rfl, hvp, hb5⟩
         have HG5 := Lib.hid (grown_trans HG4.out (grown_of (r := some R) hb5))
         have HV5 := Lib.hid hvp.rowV5
         obtain ⟨Ap, cp, evp⟩ := hvp.slice
         subst evp
         clear hvp hb5 HPC HG4)
      | (go_at_call 22
         revert HPT4; intro HPT4
         clear p4 p5
         refine HPT4.out.mono ?_
         rintro e w4 ⟨v4, p4', q4, rfl, hrv, hpl, ⟨h1, hq4⟩, hg⟩
         have HG4 := Lib.hid (grown_trans HG3.out hg)
         have HV4 := Lib.hid hrv
         obtain ⟨A4, c4, e4, hc4, hcm4⟩ := hrv.2
         subst e4
         clear h1 hg hrv HPT4)
      | (go_at_call 21
         revert HP4; intro HP4
         clear p4 p5
         refine HP4.out.mono ?_
         rintro e w4 ⟨⟨v4, hv4, rfl⟩, h1, hg, h3s⟩
         obtain ⟨s, hs⟩ : ∃ s, s = v4 + 1 := ⟨_, rfl⟩
         have ps : IntKind.i64.wrap (1 + (v4 : Int)) = (s : Int) := by
           rw [IntWalk.i64_in _ (by omega)]
           omega
         have HG4 := Lib.hid (grown_trans HG3.out hg)
         have HPC := Lib.hid (HPS.out w4 s HG4.out (by omega) (by omega))
         have hP7 := HPL.out s
         clear h1 hg h3s hs HP4 HPS HPL HG3 HY3 HR3
         generalize partL l s = P at *)
      | (go_at_call 21
         revert HP2; intro HP2
         refine HP2.out.mono ?_
         rintro e w3 ⟨⟨v3, hv3, rfl⟩, h1, hg, h3s⟩
         have HG3 := Lib.hid hg
         have HY3 := Lib.hid (HY2.out.grown hg hH)
         have HR3 := Lib.hid h1
         have hlt3 := h1.lt
         clear h1 hg h3s HP2
         have HP4 := Lib.hid (pick_any R n' c H (q + 1) (F - 1) A w3 HR3.out HY3.out hH (by omega) hn' (by omega) (by omega))
         rw [show ((F - 1 : Nat) : Int) = (F : Int) - 1 by omega] at HP4
         have HPT4 := Lib.hid (HPU.out w3 (q + 1) z HR3.out HY3.out (by omega) h3 hl)
         clear HPU
         obtain rfl | ⟨k0, k1⟩ : v3 = 0 ∨ (v3 = 1 ∧ ((v3 : Int) == 0) = false) := by
           rcases v3 with _ | v3
           · exact .inl rfl
           · exact .inr ⟨by omega, by simp; omega⟩
         all_goals obtain ⟨p4, p5⟩ := HP45.out))
    · go_ret2
      exact FIN.out _ _ _ HG5.out (HV5.out.newP (by omega))
    · go_ret2
      exact FIN.out _ _ _ HG4.out (HV4.out.newP (by omega))
end Go.Proofs.YtgojojoanhilnaaDoor
