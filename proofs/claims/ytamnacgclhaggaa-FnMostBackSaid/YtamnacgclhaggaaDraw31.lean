/- The laws' drawer of tellings: some number, some threes. -/
import Derived.Test.YtamnacgclhaggaaDraw30
import Derived.Test.YtamnacgclhaggaaPE
import Derived.Test.YtamnacgclhaggaaDR
import Derived.Test.YtamnacgclhaggaaCC
import Derived.Test.YtamnacgclhaggaaRwS
namespace Go.Proofs.Ytamnacgclhaggaa
open Go.ChangeShapes Go.WideShapes Go.ChangeAt Go.RowKit

/-- An append to a slice of rows, by another name. -/
def apG (ts : Array TypeId) (ty : TypeId) (args : Array Value) : Sem Value := Builtin.append_ ts ty args
theorem apG_fold (ts : Array TypeId) (ty : TypeId) (args : Array Value) : Builtin.append_ ts ty args = apG ts ty args := rfl
theorem rowV_one {w : World} {B : Nat} {u : Value} {l : List Int} (h : RowV w B u l) : u.oneCell' = true := by
  obtain ⟨A, d, rfl, _⟩ := h.2
  rfl
theorem apG_run {V : World} {B : Nat} {v u : Value} {L : List (List Int)} {l : List Int} (h : GrowS V B v L) (hB : B ≤ V.heap.size) (hu : RowV V B u l) (hl : L.length ≤ 3000) :
    ∃ v' w', (∀ ty, (apG #[25, 25] ty #[v, .slice (some ⟨V.heap.size, 0, none⟩) 1 1]).run Try.prog (V.alloc (.cells #[u] 23)) = .ok v' w') ∧ GrowS w' B v' (L ++ [l]) ∧ (V.alloc (.cells #[u] 23)).grownBy w' v.ownBlock ∧ (∀ k, v.ownBlock = some k → B ≤ k) := by
  obtain ⟨xs, h1, h2⟩ := h
  obtain ⟨i0, hi, hz0, hz1, hz2⟩ := info_parts row_info
  obtain ⟨v', w', hrun, hown, hgr, _⟩ := run_append_own (P := Try.prog) (V.alloc (.cells #[u] 23)) B 25 25 23 i0 (.slice none 0 0) 1 24 Try.underlying25 hi hz0 hz1 hz2 rfl (by decide) v L.length xs (h1.alloc _) ⟨V.heap.size, 0, none⟩ 1 1 [u] rfl (one_cell V _ _) (by simpa using rowV_one hu) (by unfold maxLen; omega) (by omega) (by simp; omega)
  exact ⟨v', w', fun _ => hrun, grow_row rfl h1 h2 hu _ hown hgr, hgr, fun k hk => (h1.lt k hk).1⟩
theorem own_rowV31 {w : World} {B : Nat} {v : Value} {l : List Int} (h : Own w B v l) : RowV w B v l := by
  refine ⟨h.gen, ?_⟩
  rcases h.2 with ⟨e, h0⟩ | ⟨g, cap, cur, e, _, _, h2, h3, _⟩
  · exact ⟨none, 0, by rw [e, h0], by omega, by omega⟩
  · exact ⟨_, cap, e, h2, by unfold maxLen at h3; omega⟩
theorem grow_dn31 {w : World} {B B' : Nat} {v : Value} {L : List (List Int)} (h : GrowS w B v L) (hB : B' ≤ B) : GrowS w B' v L := by
  obtain ⟨xs, h1, h2⟩ := h
  refine ⟨xs, ⟨h1.1, ?_⟩, fun k hk => ?_⟩
  · rcases h1.2 with e | ⟨g, cap, cur, e, hb, rest⟩
    · exact .inl e
    · exact .inr ⟨g, cap, cur, e, by omega, rest⟩
  · obtain ⟨vk, h3, h4⟩ := h2 k hk
    exact ⟨vk, h3, h4.less hB⟩
theorem grown_undrewN {w w' : World} {k : Nat} {r : Option Nat} (h : (w.drewN k).grownBy w' r) : w.grownBy w' r := ⟨h.os, h.tape, h.output, h.size, h.block⟩
def TelN (b : Nat) (w : World) (e : Ending) (w' : World) : Prop := ∃ (m : Nat) (v : Value) (L : List (List Int)), e = .returned (.tuple #[.int .i64 (m : Int), v]) ∧ (3 ≤ m ∧ m ≤ 10) ∧ GrowS w' w.heap.size v L ∧ (L.length ≤ b ∧ ∀ l ∈ L, ThrD 6 l) ∧ Below w.heap.size w w'
attribute [local go_sem ↓] apG_fold in
set_option maxRecDepth 10000 in
set_option maxHeartbeats 2000000 in
theorem telling91_any (n c H : Nat) (A : Option Addr) (w : World) (hb : Byt w H A n) (hH : H ≤ w.heap.size) (hnc : n ≤ c) (hc : c ≤ 9223372036854775807) :
    Calls Try.prog 50 #[.slice A n c] w (TelN 7 w) := by
  have HOP := Lib.hid (openS_any n c H A w hb hH hnc hc)
  clear hb
  go_enter Try.func50, Try.ntmps50
  go_wp2_with fail
  refine HOP.out.mono ?_
  rintro e w1 ⟨rfl, ⟨n', hn', h1, h2⟩, hb1⟩
  have HSZ := Lib.hid (size91_any w.heap.size n' c H 0 6 A w1 h1 h2 hH (by omega) hn' (by omega) (by omega))
  have HB1 := Lib.hid hb1
  have HY1 := Lib.hid h2
  have hlt := h1.lt
  clear h1 h2 hb1 HOP
  go_wp2_with fail
  refine HSZ.out.mono ?_
  rintro e w2 ⟨⟨m, hm3, hm6, rfl⟩, h1, hg, hz⟩
  clear hz
  have HB2 := Lib.hid (below_grown HB1.out hg hlt)
  have HY2 := Lib.hid (HY1.out.grown hg hH)
  have HOF := Lib.hid (of91t_any w.heap.size n' c H (0 + 1) m A w2 h1 HY2.out hH (by omega) hn' (by omega) (by omega))
  have hlt2 := h1.lt
  clear h1 hg HSZ HB1 HY1
  go_wp2_with fail
  refine HOF.out.mono ?_
  rintro e w3 ⟨av, l, q, rfl, hown, ⟨hll, hof, h1, hq⟩, hg⟩
  have hring := ofL_ring hll hof hm3 (by omega)
  obtain ⟨Aa, ca, rfl⟩ := hown.slice
  have HOWN := Lib.hid (own_rowV31 hown)
  have HB3 := Lib.hid (below_grown HB2.out hg hlt2)
  have HY3 := Lib.hid (HY2.out.grown hg hH)
  have HTL : Hid (∀ x : Nat, x < m → (x : Int) ∈ l) := fun x hx => hring.1.has (by omega) (by omega)
  rw [hll]
  obtain ⟨W4, h4⟩ : ∃ W, W = w3.alloc (.cells #[] 23) := ⟨_, rfl⟩
  have HG4 : Hid (GrowS W4 w3.heap.size (.slice (some ⟨w3.heap.size, 0, none⟩) 0 0) []) := by rw [h4]; exact GrowS.empty w3 (Nat.le_refl _)
  have HT4 : Hid (w3.grownBy W4 (some w.heap.size)) := by rw [h4]; exact World.grownBy_alloc w3 _ _
  have hlt3 := h1.lt
  have hR4 : RdAt W4 w.heap.size A n' c q := by rw [h4]; exact h1.same (Below.heap_alloc w3 _ _ h1.lt)
  have HR4 := Lib.hid hR4
  have HY4 := Lib.hid (HY3.out.grown HT4.out hH)
  have HPK := Lib.hid (pick_any w.heap.size n' c H q 8 A W4 hR4 HY4.out hH (by omega) hn' (by omega) (by omega))
  clear h1 hg HOF HB2 HY2 hown hring hof hR4
  go_wp2_with fail
  rw [← h4]
  refine HPK.out.mono ?_
  rintro e w5 ⟨⟨mm, hmm, rfl⟩, h1, hg, hz⟩
  clear hz
  have hlt5 := h1.lt
  have hR5 := Lib.hid h1
  have HY5 := Lib.hid (HY4.out.grown hg hH)
  have HT5 := Lib.hid (grown_trans HT4.out hg)
  have hs4 : w3.heap.size ≤ W4.heap.size := HT4.out.size
  have HG5 : Hid (GrowS w5 w3.heap.size (.slice (some ⟨w3.heap.size, 0, none⟩) 0 0) []) := HG4.out.keep fun k hk1 hk2 => hg.block k hk2 (fun e => by have := Option.some.inj e; omega)
  clear h1 hg HPK HR4 HY4 HT4 HG4 h4 hs4
  generalize hR : w.heap.size = R at *
  have HRq := Lib.hid hR
  clear hR
  go_wp2
  go_loopw [7, 9] (fun v i wr => ∃ (k : Nat) (L : List (List Int)) (q' : Nat), k ≤ mm ∧ i = .int .i64 k ∧ Hid (L.length = k ∧ ∀ l ∈ L, ThrD 6 l) ∧ Hid (GrowS wr w3.heap.size v L) ∧ Hid (RdAt wr R A n' c q') ∧ q' ≤ 60 + 10 * k ∧ Hid (Byt wr H A n') ∧ Hid (w3.grownBy wr (some R))) (fun _ i _ => mm - (intOf i).toNat)
  case atStart => exact ⟨0, [], _, Nat.zero_le _, rfl, Lib.hid ⟨rfl, fun l hl => by simp at hl⟩, HG5, hR5, by omega, HY5, HT5⟩
  case round =>
    obtain ⟨k, L, q', hk, rfl, hL, hgs, hrd, hq', hby, hgr⟩ := hrel
    clear HG5 hR5 HY5 HT5
    by_cases hltk : k < mm
    · have HTH := Lib.hid (three91t_any R n' c H q' m A wr hrd.out hby.out hH (by omega) hn' hm3 (by omega))
      have hrlt := hrd.out.lt
      go_wp2_with fail
      refine HTH.out.mono ?_
      rintro e w6 ⟨v6, t6, rfl, hown6, ⟨⟨x, y, z, rfl, hx, hy, hz⟩, h1⟩, hg6⟩
      obtain ⟨A6, c6, rfl⟩ := hown6.slice
      obtain ⟨b6, o6, rfl, hb6, c0, c1, c2⟩ := rd3 hown6.rd.2
      have HRV : Hid (RowV w6 w3.heap.size (.slice (some ⟨b6, o6, none⟩) 3 c6) [(x : Int), (y : Int), (z : Int)]) := (own_rowV31 hown6).less hgr.out.size
      have HG6 := Lib.hid (hgs.out.keep (w' := w6) fun j hj1 hj2 => hg6.block j hj2 (fun e => by have := Option.some.inj e; omega))
      have HT6 := Lib.hid (grown_trans hgr.out hg6)
      have HY6 := Lib.hid (hby.out.grown hg6 hH)
      have HR6 := Lib.hid h1
      have HRT := Lib.hid hown6.rd.2
      have HRAW : Hid (Rd w6 w6.heap.size Aa m l) := by
        have h := (HOWN.out.same (w' := w6) fun j hj => HT6.out.block j (HOWN.out.1.lt j hj).2 (fun e => by have := Option.some.inj e; have := (HOWN.out.1.lt j hj).1; omega)).1.rd.2
        rwa [hll] at h
      clear h1 hg6 hgs hby hgr hrd hown6 HTH
      by_cases hxz : x = z
      · have hne : ((x : Int) != (z : Int)) = false := by simp; omega
        go_wp2
        go_quiet (fail)
        have hs6 : w3.heap.size ≤ (w6.drewN nq).heap.size := HT6.out.size
        obtain ⟨v7, w7, r7, g7, b7, d7⟩ := apG_run (V := w6.drewN nq) (HG6.out.drewN nq) hs6 (HRV.out.same fun _ _ => rfl) (by have := hL.out.1; omega)
        have r8 : ∀ ty, (apG #[25, 25] ty #[u7, .slice (some ⟨w6.heap.size, 0, none⟩) 1 1]).run Try.prog ((w6.drewN nq).alloc (.cells #[.slice (some ⟨b6, o6, none⟩) 3 c6] 23)) = .ok v7 w7 := r7
        clear r7
        have HG7 := Lib.hid g7
        have HK7 : Hid (∀ j, j < w3.heap.size → w7.heap[j]? = w6.heap[j]?) := fun j hj => (b7.block j (by have := hs6; simp at this ⊢; omega) (fun e => by have := d7 j e.symm; omega)).trans (Below.heap_alloc (w6.drewN nq) _ j (by omega))
        have hs7 : w6.heap.size ≤ w7.heap.size := by have := b7.size; simp at this; omega
        have HB7 := Lib.hid b7
        clear g7 b7 d7
        go_wp2
        have HT7 : Hid (w3.grownBy w7 (some R)) := ⟨HB7.out.os.trans HT6.out.os, HB7.out.tape.trans HT6.out.tape, HB7.out.output.trans HT6.out.output, by have := HT6.out.size; omega, fun j hj hjR => (HK7.out j hj).trans (HT6.out.block j hj hjR)⟩
        have HR7 := Lib.hid (HR6.out.same (HK7.out R hlt3))
        have HY7 := Lib.hid (HY6.out.keep (fun b o hb => World.cell?_of_block (HK7.out b (by omega))))
        go_roundw
        case rel => exact ⟨k + 1, L ++ [[(x : Int), (y : Int), (z : Int)]], q' + 4, by omega, by go_num, Lib.hid ⟨by rw [List.length_append, hL.out.1]; rfl, fun t ht => by
          rcases List.mem_append.1 ht with ht | ht
          · exact hL.out.2 t ht
          · rw [List.mem_singleton.1 ht]; exact ⟨x, y, z, rfl, by omega, by omega, by omega⟩⟩, HG7, HR7, by omega, HY7, HT7⟩
        case measure => simp [intOf]; omega
      · have hne : ((x : Int) != (z : Int)) = true := by simp; omega
        have HHA := Lib.hid (fun Q => l2Has_any Aa m ca w6.heap.size l (some ⟨b6, o6, none⟩) c6 w6.heap.size (x : Int) (y : Int) (z : Int) (w6.drewN Q) (HRAW.out.drewN Q) (HRT.out.drewN Q) (by omega) (by omega) (HTL.out x hx) (HTL.out y hy) (HTL.out z hz))
        by_cases hh : has3 l [(x : Int), (y : Int), (z : Int)] = true
        · rw [hh] at HHA
          clear hh
          go_wp2
          go_quiet (refine (Calls.quiet_of (HHA.out _)))
          have hs6 : w3.heap.size ≤ (w6.drewN nq).heap.size := HT6.out.size
          obtain ⟨v7, w7, r7, g7, b7, d7⟩ := apG_run (V := w6.drewN nq) (HG6.out.drewN nq) hs6 (HRV.out.same fun _ _ => rfl) (by have := hL.out.1; omega)
          have r8 : ∀ ty, (apG #[25, 25] ty #[u7, .slice (some ⟨w6.heap.size, 0, none⟩) 1 1]).run Try.prog ((w6.drewN nq).alloc (.cells #[.slice (some ⟨b6, o6, none⟩) 3 c6] 23)) = .ok v7 w7 := r7
          clear r7
          have HG7 := Lib.hid g7
          have HK7 : Hid (∀ j, j < w3.heap.size → w7.heap[j]? = w6.heap[j]?) := fun j hj => (b7.block j (by have := hs6; simp at this ⊢; omega) (fun e => by have := d7 j e.symm; omega)).trans (Below.heap_alloc (w6.drewN nq) _ j (by omega))
          have hs7 : w6.heap.size ≤ w7.heap.size := by have := b7.size; simp at this; omega
          have HB7 := Lib.hid b7
          clear g7 b7 d7
          go_wp2
          have HT7 : Hid (w3.grownBy w7 (some R)) := ⟨HB7.out.os.trans HT6.out.os, HB7.out.tape.trans HT6.out.tape, HB7.out.output.trans HT6.out.output, by have := HT6.out.size; omega, fun j hj hjR => (HK7.out j hj).trans (HT6.out.block j hj hjR)⟩
          have HR7 := Lib.hid (HR6.out.same (HK7.out R hlt3))
          have HY7 := Lib.hid (HY6.out.keep (fun b o hb => World.cell?_of_block (HK7.out b (by omega))))
          go_roundw
          case rel => exact ⟨k + 1, L ++ [[(x : Int), (y : Int), (z : Int)]], q' + 4, by omega, by go_num, Lib.hid ⟨by rw [List.length_append, hL.out.1]; rfl, fun t ht => by
            rcases List.mem_append.1 ht with ht | ht
            · exact hL.out.2 t ht
            · rw [List.mem_singleton.1 ht]; exact ⟨x, y, z, rfl, by omega, by omega, by omega⟩⟩, HG7, HR7, by omega, HY7, HT7⟩
          case measure => simp [intOf]; omega
        · have hf : has3 l [(x : Int), (y : Int), (z : Int)] = false := by simpa using hh
          rw [hf] at HHA
          have HPK := Lib.hid (fun (Q : Nat) => pick_any R n' c H (q' + 4) 6 A (w6.drewN Q) HR6.out HY6.out hH (by omega) hn' (by omega) (by omega))
          have hb6R : w3.heap.size ≤ b6 := (HRV.out.1.lt b6 rfl).1
          have HC := Lib.hid (⟨c0, c2⟩ : w6.cell? ⟨b6, o6, none⟩ = some (.int .i64 (x : Int)) ∧ w6.cell? ⟨b6, o6 + 2, none⟩ = some (.int .i64 (z : Int)))
          have HKC := Lib.hid (fun (Q : Nat) (V : World) (hg : (w6.drewN Q).grownBy V (some R)) => by
            have hk : V.heap[b6]? = w6.heap[b6]? := hg.block b6 hb6 (fun e => by have := Option.some.inj e; omega)
            exact (⟨(World.cell?_of_block hk).trans c0, (World.cell?_of_block hk).trans c1, (World.cell?_of_block hk).trans c2⟩ : V.cell? ⟨b6, o6, none⟩ = some (.int .i64 (x : Int)) ∧ V.cell? ⟨b6, o6 + 1, none⟩ = some (.int .i64 (y : Int)) ∧ V.cell? ⟨b6, o6 + 2, none⟩ = some (.int .i64 (z : Int))))
          clear hh hf c0 c1 c2
          go_wp2
          go_region_held3 (fun V => V.cell? ⟨b6, o6, none⟩ = some (.int .i64 (x : Int)) ∧ V.cell? ⟨b6, o6 + 2, none⟩ = some (.int .i64 (z : Int)))
            (first
              | exact HC.out
              | (have h := HC7.out; exact ⟨h.1, h.2.2⟩))
            (first
              | (go_at_call 47; refine (HHA.out 1).mono ?_; rintro e wh ⟨rfl, qh, rfl⟩)
              | (go_at_call 59; refine (HPK.out _).mono ?_; rintro e wp ⟨⟨vp, hvp, rfl⟩, hp1, hpg, hpz⟩; have HC7 := Lib.hid (HKC.out _ _ hpg)))
          have HGP := Lib.hid (HG6.out.keep (w' := wp) fun j hj1 hj2 => hpg.block j hj2 (fun e => by have := Option.some.inj e; omega))
          have HRVP := Lib.hid (HRV.out.grown5 (grown_undrewN hpg) hlt3)
          have HTP := Lib.hid (grown_trans HT6.out (grown_undrewN hpg))
          have HYP := Lib.hid (HY6.out.grown (grown_undrewN hpg) hH)
          have HRP := Lib.hid hp1
          have hsp : w6.heap.size ≤ wp.heap.size := (grown_undrewN hpg).size
          have HSP : w3.heap.size ≤ wp.heap.size := by have := HT6.out.size; omega
          clear hp1 hpg hpz HC HKC HHA HPK HG6 HRV HT6 HY6 HR6 HRT HRAW
          by_cases hv0 : vp = 0
          · subst hv0
            clear HC7
            have hs6 : w3.heap.size ≤ wp.heap.size := HSP
            obtain ⟨v7, w7, r7, g7, b7, d7⟩ := apG_run (V := wp) HGP.out hs6 HRVP.out (by have := hL.out.1; omega)
            have r8 : ∀ ty, (apG #[25, 25] ty #[u7, .slice (some ⟨wp.heap.size, 0, none⟩) 1 1]).run Try.prog (wp.alloc (.cells #[.slice (some ⟨b6, o6, none⟩) 3 c6] 23)) = .ok v7 w7 := by simpa using r7
            clear r7
            have HG7 := Lib.hid g7
            have HK7 : Hid (∀ j, j < w3.heap.size → w7.heap[j]? = wp.heap[j]?) := fun j hj => (b7.block j (by have := hs6; simp at this ⊢; omega) (fun e => by have := d7 j e.symm; omega)).trans (Below.heap_alloc wp _ j (by omega))
            have hs7 : w6.heap.size ≤ w7.heap.size := by have := b7.size; simp at this; omega
            have HB7 := Lib.hid b7
            clear g7 b7 d7
            go_wp2
            have HT7 : Hid (w3.grownBy w7 (some R)) := ⟨HB7.out.os.trans HTP.out.os, HB7.out.tape.trans HTP.out.tape, HB7.out.output.trans HTP.out.output, by have := HTP.out.size; omega, fun j hj hjR => (HK7.out j hj).trans (HTP.out.block j hj hjR)⟩
            have HR7 := Lib.hid (HRP.out.same (HK7.out R hlt3))
            have HY7 := Lib.hid (HYP.out.keep (fun b o hb => World.cell?_of_block (HK7.out b (by omega))))
            go_roundw
            case rel => exact ⟨k + 1, L ++ [[(x : Int), (y : Int), (z : Int)]], q' + 4 + 1, by omega, by go_num, Lib.hid ⟨by rw [List.length_append, hL.out.1]; rfl, fun t ht => by
              rcases List.mem_append.1 ht with ht | ht
              · exact hL.out.2 t ht
              · rw [List.mem_singleton.1 ht]; exact ⟨x, y, z, rfl, by omega, by omega, by omega⟩⟩, HG7, HR7, by omega, HY7, HT7⟩
            case measure => simp [intOf]; omega
          · obtain ⟨vq, rfl⟩ : ∃ vq, vp = vq + 1 := ⟨vp - 1, by omega⟩
            obtain ⟨d0, d1, d2⟩ := HC7.out
            clear HC7 hv0
            have F1 : Hid (GrowS wp.drew w3.heap.size u7 L) := HGP.out
            have F3 : Hid (w3.grownBy wp.drew (some R)) := ⟨HTP.out.os, HTP.out.tape, HTP.out.output, HTP.out.size, HTP.out.block⟩
            have F4 : Hid (Byt wp.drew H A n') := HYP.out.keep (fun _ _ _ => rfl)
            have F5 : Hid (RdAt wp.drew R A n' c (q' + 4 + 1)) := HRP.out.same rfl
            have F6 : w6.heap.size ≤ wp.drew.heap.size := hsp
            have F7 : w3.heap.size ≤ wp.drew.heap.size := HSP
            clear HGP HRVP HTP HYP HRP hsp HSP
            go_wp2
            go_still_tail 9, (by kernel_rfl)
            change wpList _ _ _ _ _ wp.drew
            obtain ⟨wq, hwq⟩ : ∃ wq, wq = wp.drew := ⟨_, rfl⟩
            rw [← hwq] at F1 F3 F4 F5 F6 F7 ⊢
            clear d0 d1 d2 hwq
            have hrow := RowV.lit wq F7 [(x : Int), (z : Int), (y : Int)] (by simp)
            simp only [ints, List.map_cons, List.map_nil] at hrow
            have HROW := Lib.hid hrow
            clear hrow
            have hs6 : w3.heap.size ≤ (wq.alloc (.cells #[.int .i64 (x : Int), .int .i64 (z : Int), .int .i64 (y : Int)] 3)).heap.size := by simp; omega
            obtain ⟨v7, w7, r7, g7, b7, d7⟩ := apG_run (V := (wq.alloc (.cells #[.int .i64 (x : Int), .int .i64 (z : Int), .int .i64 (y : Int)] 3))) (F1.out.alloc _) hs6 HROW.out (by have := hL.out.1; omega)
            have r8 : ∀ ty, (apG #[25, 25] ty #[u7, .slice (some ⟨wq.heap.size + 1, 0, none⟩) 1 1]).run Try.prog ((wq.alloc (.cells #[.int .i64 (x : Int), .int .i64 (z : Int), .int .i64 (y : Int)] 3)).alloc (.cells #[.slice (some ⟨wq.heap.size, 0, none⟩) 3 3] 23)) = .ok v7 w7 := by simpa using r7
            clear r7
            have HG7 := Lib.hid g7
            have HK7 : Hid (∀ j, j < w3.heap.size → w7.heap[j]? = wq.heap[j]?) := fun j hj => (b7.block j (by have := hs6; simp at this ⊢; omega) (fun e => by have := d7 j e.symm; omega)).trans ((Below.heap_alloc _ _ j (by simp; omega)).trans (Below.heap_alloc wq _ j (by omega)))
            have hs7 : w6.heap.size ≤ w7.heap.size := by have := b7.size; simp at this; omega
            have HB7 := Lib.hid b7
            clear g7 b7 d7
            go_wp2
            have HT7 : Hid (w3.grownBy w7 (some R)) := ⟨HB7.out.os.trans F3.out.os, HB7.out.tape.trans F3.out.tape, HB7.out.output.trans F3.out.output, by have := F3.out.size; omega, fun j hj hjR => (HK7.out j hj).trans (F3.out.block j hj hjR)⟩
            have HR7 := Lib.hid (F5.out.same (HK7.out R hlt3))
            have HY7 := Lib.hid (F4.out.keep (fun b o hb => World.cell?_of_block (HK7.out b (by omega))))
            go_roundw
            case rel => exact ⟨k + 1, L ++ [[(x : Int), (z : Int), (y : Int)]], q' + 4 + 1, by omega, by go_num, Lib.hid ⟨by rw [List.length_append, hL.out.1]; rfl, fun t ht => by
              rcases List.mem_append.1 ht with ht | ht
              · exact hL.out.2 t ht
              · rw [List.mem_singleton.1 ht]; exact ⟨x, z, y, rfl, by omega, by omega, by omega⟩⟩, HG7, HR7, by omega, HY7, HT7⟩
            case measure => simp [intOf]; omega
    · obtain rfl : k = mm := by omega
      obtain ⟨A8, c8, rfl, hlc8, hcm8⟩ := hgs.out.slice
      have HPK := Lib.hid (pick_any R n' c H q' 60 A wr hrd.out hby.out hH (by omega) hn' (by omega) (by omega))
      have HGS := Lib.hid hgs
      have HGR := Lib.hid hgr
      clear hgs hgr hrd hby
      go_wp2_with fail
      refine HPK.out.mono ?_
      rintro e w5 ⟨⟨v5, hv5, rfl⟩, h1, hg, h3⟩
      obtain ⟨q5, hq5⟩ : ∃ q5, q5 = v5 / 59 := ⟨_, rfl⟩
      have t5 : Int.tdiv (v5 : Int) 59 = (q5 : Int) := by rw [Int.tdiv_eq_ediv_of_nonneg (by omega), hq5]; simp
      have k5 : q5 ≤ 1 := by omega
      have x5 : IntKind.i64.wrap (q5 : Int) = (q5 : Int) := IntWalk.i64_in _ (by omega)
      have y5 : IntKind.i64.wrap ((q5 : Int) * 4) = (q5 : Int) * 4 := IntWalk.i64_in _ (by omega)
      have z5 : IntKind.i64.wrap ((m : Int) + (q5 : Int) * 4) = (m : Int) + (q5 : Int) * 4 := IntWalk.i64_in _ (by omega)
      have HGF : Hid (GrowS w5 R (.slice A8 L.length c8) L) := grow_dn31 (HGS.out.keep fun j hj1 hj2 => hg.block j hj2 (fun e => by have := Option.some.inj e; omega)) (Nat.le_of_lt hlt3)
      have HBF : Hid (Below R w w5) := below_grown (below_grown HB3.out HGR.out hlt3) hg (by have := HGR.out.size; omega)
      have h43 : (m : Int) + (q5 : Int) * 4 = ((m + q5 * 4 : Nat) : Int) := by omega
      have HE := Lib.hid h43
      clear h1 hg h3 hq5 HGS HGR HPK h43 hv5
      go_wp2
      go_ret2
      exact ⟨m + q5 * 4, _, L, by rw [← HE.out]; rfl, by omega, by rw [HRq.out]; exact HGF.out, ⟨by have := hL.out.1; omega, hL.out.2⟩, by rw [HRq.out]; exact HBF.out⟩

/-- What a drawer of tellings gives: a number, a slice of rows at hand. -/
def TelX (w : World) (e : Ending) (w' : World) : Prop := ∃ (m : Nat) (A : Option Addr) (n c : Nat) (L : List (List Int)), e = .returned (.tuple #[.int .i64 (m : Int), .slice A n c]) ∧ RwS w' A n c L ∧ (n ≤ c ∧ c ≤ 9223372036854775807 ∧ n ≤ 9 ∧ 3 ≤ m ∧ m ≤ 10) ∧ Below w.heap.size w w'
theorem thrD_tot {m : Nat} {L : List (List Int)} (h : ∀ l ∈ L, ThrD m l) (hl : L.length ≤ 9) : tot L ≤ 1048576 := by
  have h7 : ∀ l ∈ L, l.length ≤ 7 := fun l hm => by
    obtain ⟨x, y, z, rfl, _⟩ := h l hm
    simp
  have key : ∀ k, k ≤ L.length → sumTo L k ≤ 7 * k := fun k => by
    induction k with
    | zero => intro _; simp [sumTo]
    | succ k ih =>
      intro hk
      have h1 := ih (by omega)
      have h2 := h7 _ (rowK_mem (show k < L.length by omega))
      simp only [sumTo]
      omega
  have := key L.length (Nat.le_refl _)
  unfold tot
  omega
theorem telX_of {b : Nat} (h9 : b ≤ 9) {w w' : World} {e : Ending} (h : TelN b w e w') : TelX w e w' := by
  obtain ⟨m, v, L, rfl, hm, hg, ⟨hl, hL⟩, hb⟩ := h
  have ht := thrD_tot hL (by omega)
  obtain ⟨A, c, rfl, h1, h2⟩ := hg.slice
  exact ⟨m, A, _, c, L, rfl, ⟨⟨hg.rd.2, ht⟩, Nat.zero_le _⟩, ⟨h1, h2, by omega, hm.1, hm.2⟩, hb⟩
theorem drawTMostRing_any (n c H : Nat) (A : Option Addr) (w : World) (hb : Byt w H A n) (hH : H ≤ w.heap.size) (hnc : n ≤ c) (hc : c ≤ 9223372036854775807) :
    Calls Try.prog 17 #[.slice A n c] w (TelX w) := by
  have HT := Lib.hid (telling91_any n c H A w hb hH hnc hc)
  clear hb
  go_enter Try.func17, Try.ntmps17
  go_wp2_with fail
  refine HT.out.mono ?_
  intro e w1 ht
  obtain ⟨m, A1, n1, c1, L, rfl, hr, hx, hb⟩ := telX_of (by omega) ht
  clear HT ht
  have HR := Lib.hid hr
  have HX := Lib.hid hx
  have HB := Lib.hid hb
  clear hr hx hb
  go_wp2
  go_ret2
  exact ⟨m, A1, n1, c1, L, rfl, HR.out, HX.out, HB.out⟩
end Go.Proofs.Ytamnacgclhaggaa
