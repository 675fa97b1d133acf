/- The drawer of FnAtIs: a ring, a pattern and a text. -/
import Derived.Test.YtphffefkjbgibabDoorDR
import Derived.Test.YtphffefkjbgibabDoorLaw10
import Derived.Laws.DeepStrings4
import Derived.Laws.Strings3
namespace Go.Proofs.YtphffefkjbgibabDoor
open Go.ChangeShapes Go.WideShapes Go.ChangeAt Go.RowKit

set_option maxHeartbeats 1000000 in
theorem of_any (R n c H p g m : Nat) (A : Option Addr) (L : List ByteArray) (w : World) (hR : RdAt w R A n c p) (hb : Byt w H A n) (hH : H ≤ R) (hp : p ≤ 100000) (hn : n ≤ 2000)
    (hm : L.length = m) (hL : ∀ j (hj : j < L.length), w.cell? ⟨g, j, none⟩ = some (.string L[j])) (hg : g ≠ R) (h1 : 1 ≤ m) (h2 : m ≤ 100) :
    Calls Tryd.prog 25 #[.pointer (some ⟨R, 0, none⟩), .slice (some ⟨g, 0, none⟩) m m] w fun e w' => ∃ s ∈ L, e = .returned (.string s) ∧ RdAt w' R A n c (p + 1) ∧ w.grownBy w' (some R) := by
  have HP := Lib.hid (pick_any R n c H p m A w hR hb hH hp hn h1 (by omega))
  have HL := Lib.hid hL
  have HM := Lib.hid hm
  clear hL hR hb hm
  go_enter Tryd.func25, Tryd.ntmps25
  go_wp2_with fail
  refine HP.out.mono ?_
  rintro e w1 ⟨⟨v, hv, rfl⟩, hr, hgr, hsz⟩
  have hvl : v < L.length := by rw [HM.out]; exact hv
  have hc := hgr.cell (HL.out v hvl) (fun e => hg (by have e1 : g = R := Option.some.inj e; exact e1))
  have HR := Lib.hid hr
  have HG := Lib.hid hgr
  clear hr hgr hsz HP
  go_wp2_with fail
  go_ret
  exact ⟨_, List.getElem_mem hvl, rfl, HR.out, HG.out⟩

theorem of9_any (R n c H p : Nat) (A : Option Addr) (w : World) (hR : RdAt w R A n c p) (hb : Byt w H A n) (hH : H ≤ R) (hp : p ≤ 100000) (hn : n ≤ 2000) :
    Calls Tryd.prog 25 #[.pointer (some ⟨R, 0, none⟩), .slice (some ⟨w.heap.size, 0, none⟩) 9 9] (w.alloc (.cells #[.string ⟨#[97, 116, 32, 48, 32, 49, 32, 50]⟩, .string ⟨#[97, 116, 32, 49, 32, 50, 32, 48]⟩, .string ⟨#[97, 116, 32, 48, 32, 49]⟩, .string ⟨#[97, 116]⟩, .string ⟨#[97, 116, 32, 48, 32, 49, 32, 50, 32, 51]⟩, .string ⟨#[97, 116, 32, 48, 32, 50, 32, 49]⟩, .string ⟨#[97, 116, 32, 48, 32, 49, 32, 50, 32]⟩, .string ⟨#[]⟩, .string ⟨#[120]⟩] 9)) fun e w' => ∃ s : ByteArray, s.size ≤ 100 ∧ e = .returned (.string s) ∧ w.grownBy w' (some R) := by
  have hRt := hR.lt
  refine (of_any R n c H p w.heap.size 9 A [⟨#[97, 116, 32, 48, 32, 49, 32, 50]⟩, ⟨#[97, 116, 32, 49, 32, 50, 32, 48]⟩, ⟨#[97, 116, 32, 48, 32, 49]⟩, ⟨#[97, 116]⟩, ⟨#[97, 116, 32, 48, 32, 49, 32, 50, 32, 51]⟩, ⟨#[97, 116, 32, 48, 32, 50, 32, 49]⟩, ⟨#[97, 116, 32, 48, 32, 49, 32, 50, 32]⟩, ⟨#[]⟩, ⟨#[120]⟩] (w.alloc (.cells #[.string ⟨#[97, 116, 32, 48, 32, 49, 32, 50]⟩, .string ⟨#[97, 116, 32, 49, 32, 50, 32, 48]⟩, .string ⟨#[97, 116, 32, 48, 32, 49]⟩, .string ⟨#[97, 116]⟩, .string ⟨#[97, 116, 32, 48, 32, 49, 32, 50, 32, 51]⟩, .string ⟨#[97, 116, 32, 48, 32, 50, 32, 49]⟩, .string ⟨#[97, 116, 32, 48, 32, 49, 32, 50, 32]⟩, .string ⟨#[]⟩, .string ⟨#[120]⟩] 9)) (hR.same (Below.heap_alloc w _ R hRt)) (hb.grown (World.grownBy_alloc w _ (some R)) hH) hH hp hn rfl
    (fun j hj => by
      have hj3 : j < 9 := hj
      obtain rfl | rfl | rfl | rfl | rfl | rfl | rfl | rfl | rfl : j = 0 ∨ j = 1 ∨ j = 2 ∨ j = 3 ∨ j = 4 ∨ j = 5 ∨ j = 6 ∨ j = 7 ∨ j = 8 := by omega
      all_goals simp) (by omega) (by omega) (by omega)).mono ?_
  rintro e w' ⟨u, hu, rfl, _, hg⟩
  refine ⟨u, ?_, rfl, grown_trans (World.grownBy_alloc w _ (some R)) hg⟩
  simp at hu
  rcases hu with rfl | rfl | rfl | rfl | rfl | rfl | rfl | rfl | rfl <;> decide

theorem RdAt.set {w : World} {R n c p q : Nat} {A : Option Addr} (h : RdAt w R A n c p) : RdAt (w.setCell ⟨R, 1, none⟩ (.int .i64 (q : Int))) R A n c q := by
  have h' : w.heap[R]? = some (.cells #[.slice A n c, .int .i64 (p : Int)] 55 (0, 0)) := h
  exact heap_setCell_same w R 1 _ _ _ h'

set_option maxRecDepth 10000 in
set_option maxHeartbeats 2000000 in
theorem drawProofAtIs_any (n c H : Nat) (A : Option Addr) (w : World) (hb : Byt w H A n) (hH : H ≤ w.heap.size) (hnc : n ≤ c) (hc : c ≤ 9223372036854775807) :
    Calls Tryd.prog 10 #[.slice A n c] w fun e w' => ∃ v l v' l' s, e = .returned (.tuple #[v, v', .string s]) ∧ s.size ≤ 100 ∧ NewR w' v l ∧ NewR w' v' l' ∧ Below w.heap.size w w' := by
  have HOP := Lib.hid (openS_any n c H A w hb hH hnc hc)
  have HBY := Lib.hid hb
  clear hb
  go_enter Tryd.func10, Tryd.ntmps10
  go_wp2_with fail
  refine HOP.out.mono ?_
  rintro e w1 ⟨rfl, ⟨n', hn', h1, h2⟩, hb1⟩
  have HPT := Lib.hid (pat92_any w.heap.size n' c H 0 A w1 h1 h2 hH (by omega) hn')
  have HB1 := Lib.hid hb1
  have hlt := h1.lt
  clear h1 h2 hb1 HOP
  go_wp2_with fail
  refine HPT.out.mono ?_
  rintro e w2 ⟨v, l, v', l', q, rfl, hv1, hv2, ⟨hl1, hl2, _⟩, hg⟩
  obtain ⟨A1, n1, c1, rfl, hr1⟩ := hv1.newR hl1
  obtain ⟨A2, n2, c2, rfl, hr2⟩ := hv2.newR hl2
  have HB2 := Lib.hid (below_grown HB1.out hg hlt)
  have HR1 := Lib.hid hr1
  have HR2 := Lib.hid hr2
  have HSP := Lib.hid (cS_ProofAt hr1 hr2)
  have hsz := paT_size l l'
  clear hr1 hr2 hg hv1 hv2
  go_wp2_with fail
  refine HSP.out.mono ?_
  rintro e w3 ⟨rfl, hb3⟩
  have HB3 := Lib.hid (HB2.out.trans (hb3.mono HB2.out.size))
  have HQ3 := Lib.hid hb3
  have HO2 := Lib.hid (openS_any n c H A w3 (HBY.out.below (HB3.out.mono hH)) (Nat.le_trans hH HB3.out.size) hnc hc)
  have hs3 := hb3.size
  clear hb3 HSP
  generalize paT l l' = T at *
  go_wp2_with fail
  refine HO2.out.mono ?_
  rintro e w4 ⟨rfl, ⟨n4, hn4, h3, h4⟩, hb4⟩
  have hlt4 := h3.lt
  have hs4 := hb4.size
  have hc1 := h3.c1
  have hf1 := h3.frozen 1
  obtain ⟨W5, hW5⟩ : ∃ W, W = w4.setCell ⟨w3.heap.size, 1, none⟩ (.int .i64 61) := ⟨_, rfl⟩
  have H5 : Hid (RdAt W5 w3.heap.size A n4 c 61) := by rw [hW5]; exact h3.set (q := 61)
  have hb5 : Below w3.heap.size w3 W5 := by rw [hW5]; exact hb4.setCell (by simp) _
  have HY5 := Lib.hid (h4.below (w' := W5) (by rw [hW5]; exact (Below.refl H w4).setCell (by have := HB3.out.size; simp; omega) _))
  have HQ5 := Lib.hid (HQ3.out.trans (hb5.mono HQ3.out.size))
  have HB5 := Lib.hid (HB3.out.trans (hb5.mono HB3.out.size))
  have hs5 := hb5.size
  have hH3 : H ≤ w3.heap.size := Nat.le_trans hH HB3.out.size
  have HFIN : Hid (∀ w' , W5.grownBy w' (some w3.heap.size) → Rw w' A1 n1 c1 l ∧ Rw w' A2 n2 c2 l' ∧ Below w.heap.size w w') := Lib.hid (fun w' hg => by
    have hq : Below w2.heap.size w2 w' := HQ5.out.grown hg HQ5.out.size (fun k hk => by injection hk; omega)
    exact ⟨HR1.out.step hq, HR2.out.step hq, HB5.out.grown hg HB5.out.size (fun k hk => by injection hk; have := HB3.out.size; omega)⟩)
  clear h3 h4 hb4 hb5 HO2
  by_cases hpf : pfB l l' = true
  · rw [hpf]
    have HPK := Lib.hid (pick_any w3.heap.size n4 c H 61 5 A W5 H5.out HY5.out hH3 (by omega) hn4 (by omega) (by omega))
    clear hpf
    go_wp2_with fail
    rw [← hW5]
    refine HPK.out.mono ?_
    rintro e w6 ⟨⟨k, hk, rfl⟩, hr6, hg6, hz6⟩
    clear hz6
    by_cases hk0 : k = 0
    · subst hk0
      have HOF := Lib.hid (of9_any w3.heap.size n4 c H 62 A w6 hr6 (HY5.out.grown hg6 hH3) hH3 (by omega) hn4)
      have HG6 := Lib.hid hg6
      clear hr6 hg6 HPK
      go_wp2_with fail
      refine HOF.out.mono ?_
      rintro e w7 ⟨u, hu, rfl, hg7⟩
      have HG7 := Lib.hid (grown_trans HG6.out hg7)
      clear hg7
      go_wp2
      go_ret3
      obtain ⟨x1, x2, x3⟩ := HFIN.out _ HG7.out
      exact ⟨_, l, _, l', u, rfl, hu, ⟨A1, n1, c1, rfl, x1⟩, ⟨A2, n2, c2, rfl, x2⟩, x3⟩
    · have hkn : ((k : Int) == 0) = false := by simp; omega
      have HG6 := Lib.hid hg6
      clear hr6 hg6 HPK hk0
      go_wp2
      go_ret3
      obtain ⟨x1, x2, x3⟩ := HFIN.out _ HG6.out
      exact ⟨_, l, _, l', T, rfl, hsz, ⟨A1, n1, c1, rfl, x1⟩, ⟨A2, n2, c2, rfl, x2⟩, x3⟩
  · have hk0 : pfB l l' = false := by simpa using hpf
    rw [hk0]
    have HOF := Lib.hid (of9_any w3.heap.size n4 c H 61 A W5 H5.out HY5.out hH3 (by omega) hn4)
    have hs5' : W5.heap.size = w4.heap.size := by rw [hW5]; simp
    rw [hs5'] at HOF
    clear hpf hk0 hs5'
    go_wp2_with fail
    rw [← hW5]
    refine HOF.out.mono ?_
    rintro e w7 ⟨u, hu, rfl, hg7⟩
    have HG7 := Lib.hid hg7
    clear hg7
    go_wp2
    go_ret3
    obtain ⟨x1, x2, x3⟩ := HFIN.out _ HG7.out
    exact ⟨_, l, _, l', u, rfl, hu, ⟨A1, n1, c1, rfl, x1⟩, ⟨A2, n2, c2, rfl, x2⟩, x3⟩
end Go.Proofs.YtphffefkjbgibabDoor
