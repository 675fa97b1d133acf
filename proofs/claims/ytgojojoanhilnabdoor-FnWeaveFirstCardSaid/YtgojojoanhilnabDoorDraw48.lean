/- The laws' drawer of some parts. -/
import Derived.Test.YtgojojoanhilnabDoorDraw46
namespace Go.Proofs.YtgojojoanhilnabDoor
open Go.ChangeShapes Go.WideShapes Go.ChangeAt Go.RowKit

def PrtN (w : World) (e : Ending) (w' : World) : Prop := ∃ (m : Nat) (A : Option Addr) (n c : Nat) (L : List (List Int)), e = .returned (.tuple #[.int .i64 (m : Int), .slice A n c]) ∧ RwS w' A n c L ∧ (n ≤ c ∧ c ≤ 9223372036854775807 ∧ n ≤ 3 ∧ 3 ≤ m ∧ m ≤ 6) ∧ Below w.heap.size w w'
attribute [local go_sem ↓] apS_fold in
set_option maxRecDepth 10000 in
set_option maxHeartbeats 4000000 in
theorem parts92_any (n c H : Nat) (A : Option Addr) (w : World) (hb : Byt w H A n) (hH : H ≤ w.heap.size) (hnc : n ≤ c) (hc : c ≤ 9223372036854775807) :
    Calls Tryd.prog 20 #[.slice A n c] w (PrtN w) := by
  have HOP := Lib.hid (openS_any n c H A w hb hH hnc hc)
  clear hb
  go_enter Tryd.func20, Tryd.ntmps20
  go_wp2_with fail
  refine HOP.out.mono ?_
  rintro e w1 ⟨rfl, ⟨n', hn', h1, h2⟩, hb1⟩
  generalize hR : w.heap.size = R at *
  have HRq := Lib.hid hR
  have HS := Lib.hid (size91_any R n' c H 0 6 A w1 h1 h2 hH (by omega) hn' (by omega) (by omega))
  have HB1 := Lib.hid hb1
  have HY1 := Lib.hid h2
  have hlt1 := h1.lt
  clear h1 h2 hb1 HOP hR
  go_wp2_with fail
  refine HS.out.mono ?_
  rintro e w2 ⟨⟨m, hm3, hm6, rfl⟩, h1, hg, hs⟩
  have HB2 := Lib.hid (below_g6 HB1.out hg hlt1)
  have HY2 := Lib.hid (HY1.out.grown hg hH)
  have hlt2 := h1.lt
  have HOF := Lib.hid (of91t_any R n' c H 1 m A w2 h1 HY2.out hH (by omega) (by omega) (by omega) (by omega))
  clear h1 hg hs HS HB1 HY1
  go_wp2_with fail
  refine HOF.out.mono ?_
  rintro e w3 ⟨av, l, q, rfl, hown, ⟨hll, hof, h1, hq⟩, hg⟩
  have hring := ofL_ring hll hof (by omega) (by omega)
  obtain ⟨Aa, ca, rfl⟩ := hown.slice
  have HRG := Lib.hid hring
  have HLL := Lib.hid hll
  have HOWN := Lib.hid hown.rowV5
  have HB3 := Lib.hid (below_g6 HB2.out hg hlt2)
  have HY3 := Lib.hid (HY2.out.grown hg hH)
  rw [hll]
  have hlt3 := h1.lt
  obtain ⟨F, hF, f8, f128, hp45⟩ := two_pow7 m hm3 (by omega)
  have HRA : Hid (∀ V : World, w3.grownBy V (some R) → Rd V V.heap.size Aa m l) := fun V hV => by
    have h := (HOWN.out.same (w' := V) fun j hj => hV.block j (HOWN.out.1.lt j hj).2 (fun e => by have := Option.some.inj e; have := (HOWN.out.1.lt j hj).1; omega)).1.rd.2
    rwa [HLL.out] at h
  have HPA := Lib.hid (fun (s : Nat) (V : World) (hV : w3.grownBy V (some R)) (hs0 : 0 < s) (hs : s < F) => partS_any Aa m ca V.heap.size l s V (HRA.out V hV) (Nat.le_refl _) hring.1 hs0 (by rw [hll, ← hF]; exact hs))
  have HPL := Lib.hid (fun s : Nat => Nat.le_trans (part_length l s) (by omega : l.length ≤ 7))
  have HP45 := Lib.hid hp45
  clear hF hp45
  have HC4 : Hid (ScB w3 R H n' c q A (w3.alloc (.cells #[] 26)) (.slice (some ⟨w3.heap.size, 0, none⟩) 0 0) []) := by
    refine ⟨GrowS.empty w3 (Nat.le_refl _), h1.same (Below.heap_alloc w3 _ _ h1.lt), HY3.out.grown (World.grownBy_alloc w3 _ _) hH, World.grownBy_alloc w3 _ _⟩
  have HPK := Lib.hid (pick_any R n' c H q 4 A (w3.alloc (.cells #[] 26)) HC4.out.r HC4.out.y hH (by omega) (by omega) (by omega) (by omega))
  clear h1 hg HOF HB2 HY2 hown hof hll hring HRA HLL HOWN HRG
  go_wp2_with fail
  refine HPK.out.mono ?_
  rintro e w5 ⟨⟨mm, hmm, rfl⟩, h1, hg, hz⟩
  clear hz
  have HC5 := Lib.hid (HC4.out.grow hlt3 hH hg h1)
  clear h1 hg HPK HC4
  go_wp2
  go_loopw [7, 9] (fun v i wr => ∃ (k : Nat) (L : List (List Int)) (q' : Nat), k ≤ mm ∧ i = .int .i64 k ∧ Hid (L.length = k ∧ ∀ l ∈ L, l.length ≤ 8) ∧ Hid (ScB w3 R H n' c q' A wr v L) ∧ q' ≤ 60 + 20 * k) (fun _ i _ => mm - (intOf i).toNat)
  case atStart => exact ⟨0, [], _, Nat.zero_le _, rfl, Lib.hid ⟨rfl, fun l hl => by simp at hl⟩, HC5, by omega⟩
  case round =>
    obtain ⟨k, L, q', hk, rfl, hL, hsc, hq'⟩ := hrel
    clear HC5
    by_cases hltk : k < mm
    · have HP2 := Lib.hid (pick_any R n' c H q' (F - 1) A wr hsc.out.r hsc.out.y hH (by omega) hn' (by omega) (by omega))
      rw [show ((F - 1 : Nat) : Int) = (F : Int) - 1 by omega] at HP2
      have pw2 : IntKind.i64.wrap ((F : Int) - 1) = (F : Int) - 1 := IntWalk.i64_in _ (by omega)
      obtain ⟨p4, p5⟩ := HP45.out
      go_wp2_with (first
        | (go_at_call 38
           revert HP2; intro HP2
           refine HP2.out.mono ?_
           rintro e w6 ⟨⟨v3, hv3, rfl⟩, h1, hg, h3s⟩
           clear p4 p5
           obtain ⟨s, hs⟩ : ∃ s, s = v3 + 1 := ⟨_, rfl⟩
           have ps : IntKind.i64.wrap (1 + (v3 : Int)) = (s : Int) := by
             rw [IntWalk.i64_in _ (by omega)]
             omega
           have hs0 : 0 < s := by omega
           have hs1 : s < F := by omega
           have HS6 := Lib.hid (hsc.out.grow hlt3 hH hg h1)
           have HPC := Lib.hid (HPA.out s w6 HS6.out.t hs0 hs1)
           have hP7 := HPL.out s
           clear h1 hg h3s hs hsc HP2 pw2
           generalize partL l s = P at *)
        | (go_at_call 39
           revert HPC; intro HPC
           refine HPC.out.mono ?_
           rintro e w7 ⟨vp, rfl, hvp, hb7⟩
           have h6z := HS6.out.size
           have HS7 := Lib.hid (HS6.out.grow hlt3 hH (grown_of (r := some R) hb7) (HS6.out.r.same (hb7.block R (by omega))))
           have HV7 := Lib.hid (hvp.rowV5.less h6z)
           obtain ⟨Ap, cp, evp⟩ := hvp.slice
           subst evp
           obtain ⟨np, hnp⟩ : ∃ np, np = P.length := ⟨_, rfl⟩
           rw [← hnp] at HV7 ⊢
           have HNP := Lib.hid hnp
           clear hnp hvp hb7 HPC HS6
           have HP8 := Lib.hid (pick_any R n' c H (q' + 1) 8 A w7 HS7.out.r HS7.out.y hH (by omega) hn' (by omega) (by omega)))
        | (go_at_call 38
           revert HP8; intro HP8
           refine HP8.out.mono ?_
           rintro e w8 ⟨⟨v8, hv8, rfl⟩, h1, hg, h3s⟩
           have HS8 := Lib.hid (HS7.out.grow hlt3 hH hg h1)
           have HV8 := Lib.hid (HV7.out.grown5 hg hlt3)
           have HPT := Lib.hid (part92_any R n' c H (q' + 1 + 1) m A w8 HS8.out.r HS8.out.y hH (by omega) hn' hm3 (by omega))
           have HSZ := HS8.out.size
           obtain ⟨vA, wA, rA, gA, bA, dA⟩ := apS_run (V := w8) HS8.out.g HSZ HV8.out (by have := hL.out.1; omega)
           have rA8 : ∀ ty, (apS #[23, 23] ty #[u7, .slice (some ⟨w8.heap.size, 0, none⟩) 1 1]).run Tryd.prog (w8.alloc (.cells #[.slice Ap np cp] 26)) = .ok vA wA := by simpa using rA
           have HSA := Lib.hid (HS8.out.app hlt3 hH gA bA dA)
           clear h1 hg h3s HP8 HS7 HV7 rA gA bA dA
           obtain rfl | ⟨k0, k1⟩ : v8 = 0 ∨ (1 ≤ v8 ∧ ((v8 : Int) == 0) = false) := by
             rcases v8 with _ | v8
             · exact .inl rfl
             · exact .inr ⟨by omega, by simp; omega⟩)
        | (go_at_call 40
           revert HPT; intro HPT
           refine HPT.out.mono ?_
           rintro e w9 ⟨v9, t9, q9, rfl, hrv, ht9, ⟨h1, hq9⟩, hg⟩
           have HS9 := Lib.hid (HS8.out.grow hlt3 hH hg h1)
           have HV9 := Lib.hid (hrv.less HSZ)
           obtain ⟨A9, c9, e9, hc9, hcm9⟩ := hrv.2
           subst e9
           obtain ⟨n9, hn9⟩ : ∃ n9, n9 = t9.length := ⟨_, rfl⟩
           rw [← hn9] at HV9 hc9 ⊢
           have HN9 := Lib.hid hn9
           have HSZ9 := HS9.out.size
           obtain ⟨vB, wB, rB, gB, bB, dB⟩ := apS_run (V := w9) HS9.out.g HSZ9 HV9.out (by have := hL.out.1; omega)
           have rB8 : ∀ ty, (apS #[23, 23] ty #[u7, .slice (some ⟨w9.heap.size, 0, none⟩) 1 1]).run Tryd.prog (w9.alloc (.cells #[.slice A9 n9 c9] 26)) = .ok vB wB := by simpa using rB
           have HSB := Lib.hid (HS9.out.app hlt3 hH gB bB dB)
           clear h1 hg hrv hn9 HPT rB gB bB dB rA8))
      · go_roundw
        case rel => exact ⟨k + 1, L ++ [t9], q9, by omega, by go_num, Lib.hid ⟨by rw [List.length_append, hL.out.1]; rfl, fun t ht => by
          rcases List.mem_append.1 ht with ht | ht
          · exact hL.out.2 t ht
          · rw [List.mem_singleton.1 ht]; omega⟩, HSB, by omega⟩
        case measure => simp [intOf]; omega
      · go_roundw
        case rel => exact ⟨k + 1, L ++ [P], q' + 1 + 1, by omega, by go_num, Lib.hid ⟨by rw [List.length_append, hL.out.1]; rfl, fun t ht => by
          rcases List.mem_append.1 ht with ht | ht
          · exact hL.out.2 t ht
          · rw [List.mem_singleton.1 ht]; omega⟩, HSA, by omega⟩
        case measure => simp [intOf]; omega
    · obtain rfl : mm = k := by omega
      have ht := tot_le8 hL.out.2 (by have := hL.out.1; omega)
      obtain ⟨A8, n8, c8, e8, hrw, hlc8, hcm8⟩ := rwS_of hsc.out.g ht
      subst e8
      have HRW := Lib.hid hrw
      have hn8 : n8 ≤ 3 := by have := hrw.len; have := hL.out.1; omega
      have HBW : Hid (Below R w wr) := below_g6 HB3.out hsc.out.t hlt3
      clear hrw hsc ht
      go_wp2
      go_ret2
      exact ⟨m, _, _, _, L, rfl, HRW.out, ⟨hlc8, hcm8, hn8, hm3, hm6⟩, by rw [HRq.out]; exact HBW.out⟩
theorem drawWeaveFirst_any (n c H : Nat) (A : Option Addr) (w : World) (hb : Byt w H A n) (hH : H ≤ w.heap.size) (hnc : n ≤ c) (hc : c ≤ 9223372036854775807) :
    Calls Tryd.prog 6 #[.slice A n c] w (PrtN w) := by
  have HT := Lib.hid (parts92_any n c H A w hb hH hnc hc)
  clear hb
  go_enter Tryd.func6, Tryd.ntmps6
  go_wp2_with fail
  refine HT.out.mono ?_
  rintro e w1 ⟨m, A1, n1, c1, L, rfl, hr, hx, hb⟩
  clear HT
  have HR := Lib.hid hr
  have HX := Lib.hid hx
  have HB := Lib.hid hb
  clear hr hx hb
  go_wp2
  go_ret2
  exact ⟨m, A1, n1, c1, L, rfl, HR.out, HX.out, HB.out⟩
end Go.Proofs.YtgojojoanhilnabDoor
