/- The laws' drawer of a family of sets. -/
import Derived.Test.YtheoepbcejlncaaArP
import Derived.Test.YtheoepbcejlncaaDrawO
import Derived.Test.YtheoepbcejlncaaRw
import Derived.OwnWalk
namespace Go.Proofs.Ytheoepbcejlncaa
open Go.ChangeShapes Go.WideShapes Go.ChangeAt Go.RowKit

theorem u8_inF {v : Int} (h : (Lit.int .u8 v).wf = true) : 0 ≤ v ∧ v < 256 := by
  have e : IntKind.u8.min ≤ v ∧ v ≤ IntKind.u8.max := by simpa [Lit.wf] using h
  simp [IntKind.min, IntKind.max, IntKind.signed, IntKind.bits] at e
  omega
theorem byt_of_rowF {w : World} {a : Option Addr} {len cap : Nat} {zs : List Int} (h : IsRow .u8 w a len cap zs) : Byt w w.heap.size a len ∧ len ≤ cap ∧ cap ≤ 9223372036854775807 := by
  rcases h with ⟨rfl, rfl, rfl, rfl⟩ | ⟨x, rfl, hl, hm, hz, hcell, hwf⟩
  · exact ⟨fun h => absurd h (by omega), by omega, by omega⟩
  · unfold maxLen at hm
    refine ⟨fun hp => ?_, hl, hm⟩
    obtain ⟨b, off, spot⟩ := x
    have hc := hcell 0 (by omega)
    have hspot : spot = none := by simpa [Addr.add] using World.cell?_spot hc
    subst hspot
    refine ⟨b, off, rfl, World.block_lt_of_cell? w ⟨b, off, none⟩ (by simpa [Addr.add] using hc), fun k hk => ?_⟩
    have h1 := hcell k (by omega)
    have h2 := u8_inF (hwf _ (getD_mem zs k (by omega)))
    rw [Addr.add_lit] at h1
    exact ⟨(zs.getD k 0).toNat, by omega, by rw [h1, Int.toNat_of_nonneg h2.1]⟩

theorem wrapPow (z : Nat) (h : z ≤ 7) : wrap64 (2 ^ z) = ((2 ^ z : Nat) : Int) := by
  obtain rfl | rfl | rfl | rfl | rfl | rfl | rfl | rfl : z = 0 ∨ z = 1 ∨ z = 2 ∨ z = 3 ∨ z = 4 ∨ z = 5 ∨ z = 6 ∨ z = 7 := by omega
  all_goals simp [wrap64]

theorem below_grownF {w w1 w2 : World} {R : Nat} (h : Below R w w1) (hg : w1.grownBy w2 (some R)) (hR : R < w1.heap.size) : Below R w w2 :=
  h.grown hg (by omega) (by intro k hk; have e : R = k := Option.some.inj hk; omega)
theorem own_grown {w w' : World} {B R : Nat} {v : Value} {l : List Int} (h : Own w B v l) (hg : w.grownBy w' (some R)) (hr : ∀ i, v.ownBlock = some i → some i ≠ some R) : Own w' B v l := by
  refine ⟨h.1, ?_⟩
  rcases h.2 with e | ⟨g, cap, cur, hv, hgB, hh, r⟩
  · exact .inl e
  · exact .inr ⟨g, cap, cur, hv, hgB, (hg.block g (Array.getElem?_eq_some_iff.1 hh).1 (hr g (by rw [hv]; rfl))).trans hh, r⟩

attribute [local go_sem ↓] apI_fold in
set_option maxRecDepth 10000 in
set_option maxHeartbeats 4000000 in
theorem fam92_any (n c H : Nat) (A : Option Addr) (w : World) (hb : Byt w H A n) (hH : H ≤ w.heap.size) (hnc : n ≤ c) (hc : c ≤ 9223372036854775807) :
    Calls Try.prog 56 #[.slice A n c] w fun e w' => ∃ v L x, e = .returned (.tuple #[.int .i64 x, v]) ∧ NewR w' v L ∧ (L.length ≤ 5 ∧ 3 ≤ x ∧ x ≤ 10) ∧ Below w.heap.size w w' := by
  have HOP := Lib.hid (openS_any n c H A w hb hH hnc hc)
  clear hb
  go_enter Try.func56, Try.ntmps56
  go_wp2_with fail
  refine HOP.out.mono ?_
  rintro e w1 ⟨rfl, ⟨n', hn', h1, h2⟩, hb1⟩
  have HS := Lib.hid (size91_any w.heap.size n' c H 0 6 A w1 h1 h2 hH (by omega) hn' (by omega) (by omega))
  have HB1 := Lib.hid hb1
  have HY1 := Lib.hid h2
  have hlt := h1.lt
  generalize hR : w.heap.size = R at *
  have HRq := Lib.hid hR
  clear h1 h2 hb1 HOP hR
  have HPN : Hid (∀ (V : World) (p m : Nat) (M : Int), M = (m : Int) → RdAt V R A n' c p → Byt V H A n' → p ≤ 1000 → 1 ≤ m → m ≤ 1000 → Calls Try.prog 72 #[.pointer (some ⟨R, 0, none⟩), .int .i64 M] V fun e w' => (∃ v : Nat, v < m ∧ e = .returned (.int .i64 (v : Int))) ∧ RdAt w' R A n' c (p + 1) ∧ V.grownBy w' (some R) ∧ w'.heap.size = V.heap.size) := fun V p m M hM h1 h2 h3 hm1 hm => by rw [hM]; exact pick_any R n' c H p m A V h1 h2 hH (by omega) hn' hm1 hm
  go_wp2_with fail
  refine HS.out.mono ?_
  rintro e w2 ⟨⟨z, hz3, hz6, rfl⟩, h1, hg, h3⟩
  have HB2 := Lib.hid (below_grownF HB1.out hg hlt)
  have HY2 := Lib.hid (HY1.out.grown hg hH)
  have hlt2 := h1.lt
  have HO := Lib.hid (of91t_any R n' c H _ z A w2 h1 HY2.out hH (by omega) hn' (by omega) (by omega))
  clear h1 hg h3 HS HB1 HY1
  go_wp2_with fail
  refine HO.out.mono ?_
  rintro e w3 ⟨va, l, q, rfl, hoa, ⟨hll, hof, h1, hq⟩, hg⟩
  have hrl := ofL_ring hll hof hz3 (by omega)
  have HB3 := Lib.hid (below_grownF HB2.out hg hlt2)
  have HY3 := Lib.hid (HY2.out.grown hg hH)
  have hlt3 := h1.lt
  obtain ⟨Aa, ca, rfl⟩ := hoa.slice
  have HALL := Lib.hid (allS_any Aa l.length ca w3.heap.size l w3 hoa.rd.2 (Nat.le_refl _) hrl.1.1 hrl.1.2.1 (fun x hx => by have := hrl.1.2.2.1 x hx; have := hrl.1.2.1; omega))
  have hpos := allA_pos hrl
  have hlen : (allA l).length ≤ 127 := by have := arcsTo_len (isA l) (2 ^ l.length - 1); have := (pow_bd l.length hrl.1.2.1).1; unfold allA; omega
  have HR3 := Lib.hid h1
  rw [hll] at HALL ⊢
  clear h1 hg hoa HO HB2 HY2 hof hrl hll
  go_wp2_with fail
  refine HALL.out.mono ?_
  rintro e w4 ⟨vb, rfl, hob, hb4⟩
  have HR4 := Lib.hid (HR3.out.same (hb4.block R HR3.out.lt))
  have HY4 := Lib.hid (HY3.out.below (hb4.mono (by omega)))
  have HB4 := Lib.hid (HB3.out.trans (hb4.mono (by omega)))
  obtain ⟨g, cb, rfl, _, hcs⟩ := own_head7 hob (by omega)
  have hgl := own_block7 hob
  have hw34 := hb4.size
  obtain ⟨m, hm⟩ : ∃ m, m = (allA l).length := ⟨_, rfl⟩
  rw [← hm] at hpos hlen hcs ⊢
  have HCS := Lib.hid hcs
  have hR4 : R < w4.heap.size := by omega
  have hRg : R < g := by omega
  clear hob hb4 hcs HALL hm HR3 HB3 HY3
  have ho0 := Lib.hid (own_empty w4 _ (Nat.le_refl _))
  have hR5 := Lib.hid (HR4.out.same (Below.heap_alloc w4 (.cells #[] 3) R hR4))
  have hba := Lib.hid ((Below.refl w4.heap.size w4).alloc (Nat.le_refl _) (.cells #[] 3))
  have HB5 := Lib.hid (HB4.out.trans (hba.out.mono (by omega)))
  have HY5 := Lib.hid (HY4.out.below (hba.out.mono (by omega)))
  have hg5 : Hid ((w4.alloc (.cells #[] 3)).heap[g]? = w4.heap[g]?) := Below.heap_alloc w4 (.cells #[] 3) g hgl.2
  go_wp2_with fail
  have hs5 : (w4.alloc (.cells #[] 3)).heap.size = w4.heap.size + 1 := by simp
  obtain ⟨W5, hW5⟩ : ∃ W, W = w4.alloc (.cells #[] 3) := ⟨_, rfl⟩
  rw [← hW5] at ho0 hR5 hba HB5 HY5 hg5 hs5 ⊢
  clear hW5
  generalize hE : w4.heap.size = E at *
  refine (HPN.out W5 _ 6 6 rfl hR5.out HY5.out (by omega) (by omega) (by omega)).mono ?_
  rintro e w6 ⟨⟨mm, hmm, rfl⟩, h1, hg, h3⟩
  have HB6 := Lib.hid (below_grownF HB5.out hg (by omega))
  have HY6 := Lib.hid (HY5.out.grown hg hH)
  have HR6 := Lib.hid h1
  have HO6 : Hid (Own w6 E (.slice (some ⟨E, 0, none⟩) 0 0) []) := own_grown ho0.out hg (by simp [Value.ownBlock]; omega)
  have HG6 : Hid (w6.heap[g]? = w4.heap[g]?) := (hg.block g (by omega) (by simp; omega)).trans hg5.out
  have hs6 : E + 1 ≤ w6.heap.size := by omega
  have hcell : ∀ (V : World), V.heap[g]? = w4.heap[g]? → ∀ k, k < m → V.cell? ⟨g, k, none⟩ = some (.int .i64 ((allA l).getD k 0)) := fun V hV k hk => by
    rw [← HCS.out k hk]
    simp only [World.cell?, hV]
  have HCELL := Lib.hid hcell
  have hgE : g < E := hgl.2
  clear h1 hg h3 hba ho0 hR5 HB5 HY5 hg5 HCS hcell HR4 HB4 HY4 hgl
  go_wp2_with fail
  go_loopw [7, 9] (fun v i wr => ∃ (k p : Nat) (L : List Int), k ≤ mm ∧ i = .int .i64 k ∧ Hid (L.length = k) ∧ Hid (Own wr E v L) ∧ Hid (RdAt wr R A n' c p) ∧ p ≤ 100 + 3 * k ∧ Hid (Byt wr H A n') ∧ Hid (Below R w wr) ∧ Hid (wr.heap[g]? = w4.heap[g]?) ∧ E + 1 ≤ wr.heap.size) (fun _ i _ => mm - (intOf i).toNat)
  case atStart => exact ⟨0, _, [], Nat.zero_le _, rfl, rfl, HO6, HR6, by omega, HY6, HB6, HG6, hs6⟩
  case round =>
    obtain ⟨k, p, L, hk, rfl, hll, hown, hrd, hp, hby, hbl, hgr, hsz⟩ := hrel
    clear HO6 HR6 HY6 HB6 HG6
    by_cases hlt6 : k < mm
    · go_wp2_with fail
      refine (HPN.out wr p m _ rfl hrd.out hby.out (by omega) hpos (by omega)).mono ?_
      rintro e w7 ⟨⟨v7, hv7, rfl⟩, h1, hg, h3⟩
      have HB7 := Lib.hid (below_grownF hbl.out hg (by omega))
      have HY7 := Lib.hid (hby.out.grown hg hH)
      have HR7 := Lib.hid h1
      have HO7 := Lib.hid (own_grown hown.out hg (fun i hi e => by have := (World.ownsRow.lt hown.out i hi).1; have e1 : i = R := Option.some.inj e; omega))
      have HG7 : Hid (w7.heap[g]? = w4.heap[g]?) := (hg.block g (by omega) (by simp; omega)).trans hgr.out
      have hc7 := HCELL.out w7 HG7.out v7 hv7
      have hs7 : E + 1 ≤ w7.heap.size := by omega
      obtain ⟨x7, hx7⟩ : ∃ x, x = (allA l).getD v7 0 := ⟨_, rfl⟩
      rw [← hx7] at hc7
      clear h1 hg h3 hx7 hbl hby hrd hown hgr
      go_wp2_with fail
      refine (HPN.out w7 (p + 1) 8 8 rfl HR7.out HY7.out (by omega) (by omega) (by omega)).mono ?_
      rintro e w8 ⟨⟨v8, hv8, rfl⟩, h1, hg, h3⟩
      have HB8 := Lib.hid (below_grownF HB7.out hg (by omega))
      have HY8 := Lib.hid (HY7.out.grown hg hH)
      have HR8 := Lib.hid h1
      have HO8 := Lib.hid (own_grown HO7.out hg (fun i hi e => by have := (World.ownsRow.lt HO7.out i hi).1; have e1 : i = R := Option.some.inj e; omega))
      have HG8 : Hid (w8.heap[g]? = w4.heap[g]?) := (hg.block g (by omega) (by simp; omega)).trans HG7.out
      have hs8 : E + 1 ≤ w8.heap.size := by omega
      clear h1 hg h3 HB7 HY7 HR7 HO7 HG7 hc7
      obtain rfl | h8 : v8 = 0 ∨ 0 < v8 := by omega
      · go_wp2_with fail
        refine (HPN.out w8 (p + 1 + 1) (2 ^ z) _ (wrapPow z (by omega)) HR8.out HY8.out (by omega) (pow_bd z (by omega)).2 (by have := (pow_bd z (by omega)).1; omega)).mono ?_
        rintro e w9 ⟨⟨v9, hv9, rfl⟩, h1, hg, h3⟩
        have HB9 := Lib.hid (below_grownF HB8.out hg (by omega))
        have HY9 := Lib.hid (HY8.out.grown hg hH)
        have HR9 := Lib.hid h1
        have HO9 := Lib.hid (own_grown HO8.out hg (fun i hi e => by have := (World.ownsRow.lt HO8.out i hi).1; have e1 : i = R := Option.some.inj e; omega))
        have HG9 : Hid (w9.heap[g]? = w4.heap[g]?) := (hg.block g (by omega) (by simp; omega)).trans HG8.out
        have hs9 : E + 1 ≤ w9.heap.size := by omega
        clear h1 hg h3 HB8 HY8 HR8 HO8 HG8
        have hE9 : E ≤ w9.heap.size := by omega
        obtain ⟨v', w10, hrun, hown', hgrow⟩ := apI_run HO9.out hE9 (by rw [hll.out]; omega) (v9 : Int)
        have hbE := apI_below HO9.out hgrow (Nat.le_refl E) (Below.refl E w9) hE9
        have HO10 := Lib.hid hown'
        have HR10 := Lib.hid (HR9.out.same (hbE.block R (by omega)))
        have HY10 := Lib.hid (HY9.out.below (hbE.mono (by omega)))
        have HB10 := Lib.hid (HB9.out.trans (hbE.mono (by omega)))
        have HG10 : Hid (w10.heap[g]? = w4.heap[g]?) := (hbE.block g hgE).trans HG9.out
        have hs10 : E + 1 ≤ w10.heap.size := by have := hbE.size; omega
        clear hown' hgrow hbE HO9 HR9 HY9 HB9 HG9
        go_wp2
        go_roundw
        case rel => exact ⟨k + 1, _, L ++ [(v9 : Int)], by omega, by go_num, by rw [Hid, List.length_append, hll.out]; rfl, HO10, HR10, by omega, HY10, HB10, HG10, hs10⟩
        case measure => simp [intOf]; omega
      · have he8 : ((v8 : Int) == 0) = false := by simp; omega
        have hE8 : E ≤ w8.heap.size := by omega
        obtain ⟨v', w10, hrun, hown', hgrow⟩ := apI_run HO8.out hE8 (by rw [hll.out]; omega) x7
        have hbE := apI_below HO8.out hgrow (Nat.le_refl E) (Below.refl E w8) hE8
        have HO10 := Lib.hid hown'
        have HR10 := Lib.hid (HR8.out.same (hbE.block R (by omega)))
        have HY10 := Lib.hid (HY8.out.below (hbE.mono (by omega)))
        have HB10 := Lib.hid (HB8.out.trans (hbE.mono (by omega)))
        have HG10 : Hid (w10.heap[g]? = w4.heap[g]?) := (hbE.block g hgE).trans HG8.out
        have hs10 : E + 1 ≤ w10.heap.size := by have := hbE.size; omega
        clear hown' hgrow hbE HO8 HR8 HY8 HB8 HG8
        go_wp2
        go_roundw
        case rel => exact ⟨k + 1, _, L ++ [x7], by omega, by go_num, by rw [Hid, List.length_append, hll.out]; rfl, HO10, HR10, by omega, HY10, HB10, HG10, hs10⟩
        case measure => simp [intOf]; omega
    · obtain rfl : k = mm := by omega
      obtain ⟨Av, cv, ev, hcv1, hcv2⟩ := hown.out.rowV5.2
      subst ev
      rw [hll.out] at hcv1 ⊢
      go_wp2_with fail
      refine (HPN.out wr p 60 60 rfl hrd.out hby.out (by omega) (by omega) (by omega)).mono ?_
      rintro e w7 ⟨⟨v7, hv7, rfl⟩, h1, hg, h3⟩
      have HB7 := Lib.hid (below_grownF hbl.out hg (by omega))
      have HO7 := Lib.hid (own_grown hown.out hg (fun i hi e => by have := (World.ownsRow.lt hown.out i hi).1; have e1 : i = R := Option.some.inj e; omega))
      obtain ⟨q7, hq7⟩ : ∃ q7, q7 = v7 / 59 := ⟨_, rfl⟩
      have t7 : Int.tdiv (v7 : Int) 59 = (q7 : Int) := by rw [Int.tdiv_eq_ediv_of_nonneg (by omega), hq7]; simp
      have k7 : q7 ≤ 1 := by omega
      have x7 : IntKind.i64.wrap (q7 : Int) = (q7 : Int) := IntWalk.i64_in _ (by omega)
      have y7 : IntKind.i64.wrap ((q7 : Int) * 4) = (q7 : Int) * 4 := IntWalk.i64_in _ (by omega)
      have z7 : IntKind.i64.wrap ((z : Int) + (q7 : Int) * 4) = (z : Int) + (q7 : Int) * 4 := IntWalk.i64_in _ (by omega)
      have hq7' : (v7 : Int) / 59 = (q7 : Int) := by omega
      have HL7 := Lib.hid hll.out
      clear h1 hg h3 hq7 hbl hby hrd hown hgr hll
      go_wp2
      go_ret2
      refine ⟨_, L, (z : Int) + (q7 : Int) * 4, by first | rfl | (rw [← hq7']; rfl), ⟨Av, k, cv, rfl, ?_⟩, ⟨by rw [HL7.out]; omega, by omega, by omega⟩, by rw [HRq.out]; exact HB7.out⟩
      have hrd7 := HO7.out.rd.2
      rw [HL7.out] at hrd7
      exact ⟨hrd7, hcv1, hcv2, by omega⟩

theorem drawArcFamily_any (n c H : Nat) (A : Option Addr) (w : World) (hb : Byt w H A n) (hH : H ≤ w.heap.size) (hnc : n ≤ c) (hc : c ≤ 9223372036854775807) :
    Calls Try.prog 21 #[.slice A n c] w fun e w' => ∃ v L x, e = .returned (.tuple #[.int .i64 x, v]) ∧ NewR w' v L ∧ (L.length ≤ 5 ∧ 3 ≤ x ∧ x ≤ 10) ∧ Below w.heap.size w w' := by
  have HD := Lib.hid (fam92_any n c H A w hb hH hnc hc)
  clear hb
  go_enter Try.func21, Try.ntmps21
  go_wp2_with fail
  refine HD.out.mono ?_
  rintro e w1 ⟨v, L, x, rfl, ⟨A1, n1, c1, rfl, hr1⟩, hl, hb⟩
  have HR := Lib.hid hr1
  clear hr1
  go_wp2
  go_ret2
  exact ⟨_, L, x, rfl, ⟨A1, n1, c1, rfl, HR.out⟩, hl, hb⟩
theorem drawArcRings_any (n c H : Nat) (A : Option Addr) (w : World) (hb : Byt w H A n) (hH : H ≤ w.heap.size) (hnc : n ≤ c) (hc : c ≤ 9223372036854775807) :
    Calls Try.prog 24 #[.slice A n c] w fun e w' => ∃ v L x, e = .returned (.tuple #[.int .i64 x, v]) ∧ NewR w' v L ∧ (L.length ≤ 5 ∧ 3 ≤ x ∧ x ≤ 10) ∧ Below w.heap.size w w' := by
  have HD := Lib.hid (fam92_any n c H A w hb hH hnc hc)
  clear hb
  go_enter Try.func24, Try.ntmps24
  go_wp2_with fail
  refine HD.out.mono ?_
  rintro e w1 ⟨v, L, x, rfl, ⟨A1, n1, c1, rfl, hr1⟩, hl, hb⟩
  have HR := Lib.hid hr1
  clear hr1
  go_wp2
  go_ret2
  exact ⟨_, L, x, rfl, ⟨A1, n1, c1, rfl, HR.out⟩, hl, hb⟩
theorem drawArcFirst_any (n c H : Nat) (A : Option Addr) (w : World) (hb : Byt w H A n) (hH : H ≤ w.heap.size) (hnc : n ≤ c) (hc : c ≤ 9223372036854775807) :
    Calls Try.prog 28 #[.slice A n c] w fun e w' => ∃ v L x, e = .returned (.tuple #[.int .i64 x, v]) ∧ NewR w' v L ∧ (L.length ≤ 5 ∧ 3 ≤ x ∧ x ≤ 10) ∧ Below w.heap.size w w' := by
  have HD := Lib.hid (fam92_any n c H A w hb hH hnc hc)
  clear hb
  go_enter Try.func28, Try.ntmps28
  go_wp2_with fail
  refine HD.out.mono ?_
  rintro e w1 ⟨v, L, x, rfl, ⟨A1, n1, c1, rfl, hr1⟩, hl, hb⟩
  have HR := Lib.hid hr1
  clear hr1
  go_wp2
  go_ret2
  exact ⟨_, L, x, rfl, ⟨A1, n1, c1, rfl, HR.out⟩, hl, hb⟩
theorem drawArcMost_any (n c H : Nat) (A : Option Addr) (w : World) (hb : Byt w H A n) (hH : H ≤ w.heap.size) (hnc : n ≤ c) (hc : c ≤ 9223372036854775807) :
    Calls Try.prog 36 #[.slice A n c] w fun e w' => ∃ v L x, e = .returned (.tuple #[.int .i64 x, v]) ∧ NewR w' v L ∧ (L.length ≤ 5 ∧ 3 ≤ x ∧ x ≤ 10) ∧ Below w.heap.size w w' := by
  have HD := Lib.hid (fam92_any n c H A w hb hH hnc hc)
  clear hb
  go_enter Try.func36, Try.ntmps36
  go_wp2_with fail
  refine HD.out.mono ?_
  rintro e w1 ⟨v, L, x, rfl, ⟨A1, n1, c1, rfl, hr1⟩, hl, hb⟩
  have HR := Lib.hid hr1
  clear hr1
  go_wp2
  go_ret2
  exact ⟨_, L, x, rfl, ⟨A1, n1, c1, rfl, HR.out⟩, hl, hb⟩
end Go.Proofs.Ytheoepbcejlncaa
