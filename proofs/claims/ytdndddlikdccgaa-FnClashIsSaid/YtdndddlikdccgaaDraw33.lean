/- The drawer of FnClashIs: a telling and a text. -/
import Derived.Test.YtdndddlikdccgaaDraw32
import Derived.Test.YtdndddlikdccgaaLawPC
import Derived.Laws.DeepStrings4
import Derived.Laws.Strings3
namespace Go.Proofs.Ytdndddlikdccgaa
open Go.ChangeShapes Go.WideShapes Go.ChangeAt Go.RowKit

set_option maxHeartbeats 1000000 in
theorem of_any (R n c H p g m : Nat) (A : Option Addr) (L : List ByteArray) (w : World) (hR : RdAt w R A n c p) (hb : Byt w H A n) (hH : H ≤ R) (hp : p ≤ 100000) (hn : n ≤ 2000)
    (hm : L.length = m) (hL : ∀ j (hj : j < L.length), w.cell? ⟨g, j, none⟩ = some (.string L[j])) (hg : g ≠ R) (h1 : 1 ≤ m) (h2 : m ≤ 100) :
    Calls Try.prog 75 #[.pointer (some ⟨R, 0, none⟩), .slice (some ⟨g, 0, none⟩) m m] w fun e w' => ∃ s ∈ L, e = .returned (.string s) ∧ RdAt w' R A n c (p + 1) ∧ w.grownBy w' (some R) := by
  have HP := Lib.hid (pick_any R n c H p m A w hR hb hH hp hn h1 (by omega))
  have HL := Lib.hid hL
  have HM := Lib.hid hm
  clear hL hR hb hm
  go_enter Try.func75, Try.ntmps75
  go_wp2_with fail
  refine HP.out.mono ?_
  rintro e w1 ⟨⟨v, hv, rfl⟩, hr, hgr, hsz⟩
  have hvl : v < L.length := by rw [HM.out]; exact hv
  have hc := hgr.cell (HL.out v hvl) (fun e => hg (by have e1 : g = R := Option.some.inj e; exact e1))
  have HR := Lib.hid hr
  have HG := Lib.hid hgr
  clear hr hgr hsz HP
  go_wp2_with fail
  go_ret
  exact ⟨_, List.getElem_mem hvl, rfl, HR.out, HG.out⟩

theorem of8_any (R n c H p : Nat) (A : Option Addr) (w : World) (hR : RdAt w R A n c p) (hb : Byt w H A n) (hH : H ≤ R) (hp : p ≤ 100000) (hn : n ≤ 2000) :
    Calls Try.prog 75 #[.pointer (some ⟨R, 0, none⟩), .slice (some ⟨w.heap.size, 0, none⟩) 8 8] (w.alloc (.cells #[.string ⟨#[99, 108, 97, 115, 104, 32, 48, 32, 49, 32, 50]⟩, .string ⟨#[99, 108, 97, 115, 104, 32, 48, 32, 50, 32, 49]⟩, .string ⟨#[99, 108, 97, 115, 104, 32, 48, 32, 49]⟩, .string ⟨#[99, 108, 97, 115, 104]⟩, .string ⟨#[99, 108, 97, 115, 104, 32, 48, 32, 49, 32, 50, 32]⟩, .string ⟨#[99, 108, 97, 115, 104, 32, 48, 32, 49, 32, 49]⟩, .string ⟨#[]⟩, .string ⟨#[120]⟩] 9)) fun e w' => ∃ s : ByteArray, s.size ≤ 100 ∧ e = .returned (.string s) ∧ w.grownBy w' (some R) := by
  have hRt := hR.lt
  refine (of_any R n c H p w.heap.size 8 A [⟨#[99, 108, 97, 115, 104, 32, 48, 32, 49, 32, 50]⟩, ⟨#[99, 108, 97, 115, 104, 32, 48, 32, 50, 32, 49]⟩, ⟨#[99, 108, 97, 115, 104, 32, 48, 32, 49]⟩, ⟨#[99, 108, 97, 115, 104]⟩, ⟨#[99, 108, 97, 115, 104, 32, 48, 32, 49, 32, 50, 32]⟩, ⟨#[99, 108, 97, 115, 104, 32, 48, 32, 49, 32, 49]⟩, ⟨#[]⟩, ⟨#[120]⟩] (w.alloc (.cells #[.string ⟨#[99, 108, 97, 115, 104, 32, 48, 32, 49, 32, 50]⟩, .string ⟨#[99, 108, 97, 115, 104, 32, 48, 32, 50, 32, 49]⟩, .string ⟨#[99, 108, 97, 115, 104, 32, 48, 32, 49]⟩, .string ⟨#[99, 108, 97, 115, 104]⟩, .string ⟨#[99, 108, 97, 115, 104, 32, 48, 32, 49, 32, 50, 32]⟩, .string ⟨#[99, 108, 97, 115, 104, 32, 48, 32, 49, 32, 49]⟩, .string ⟨#[]⟩, .string ⟨#[120]⟩] 9)) (hR.same (Below.heap_alloc w _ R hRt)) (hb.grown (World.grownBy_alloc w _ (some R)) hH) hH hp hn rfl
    (fun j hj => by
      have hj3 : j < 8 := hj
      obtain rfl | rfl | rfl | rfl | rfl | rfl | rfl | rfl : j = 0 ∨ j = 1 ∨ j = 2 ∨ j = 3 ∨ j = 4 ∨ j = 5 ∨ j = 6 ∨ j = 7 := by omega
      all_goals simp) (by omega) (by omega) (by omega)).mono ?_
  rintro e w' ⟨u, hu, rfl, _, hg⟩
  refine ⟨u, ?_, rfl, grown_trans (World.grownBy_alloc w _ (some R)) hg⟩
  simp at hu
  rcases hu with rfl | rfl | rfl | rfl | rfl | rfl | rfl | rfl <;> decide

set_option maxRecDepth 10000 in
set_option maxHeartbeats 2000000 in
theorem drawClashIs_any (n c H : Nat) (A : Option Addr) (w : World) (hb : Byt w H A n) (hH : H ≤ w.heap.size) (hnc : n ≤ c) (hc : c ≤ 9223372036854775807) :
    Calls Try.prog 44 #[.slice A n c] w fun e w' => ∃ (m : Nat) (A1 : Option Addr) (n1 c1 : Nat) (L : List (List Int)) (s : ByteArray), e = .returned (.tuple #[.int .i64 (m : Int), .slice A1 n1 c1, .string s]) ∧ s.size ≤ 100 ∧ RwS w' A1 n1 c1 L ∧ Below w.heap.size w w' := by
  have HT := Lib.hid (drawTClash_any n c H A w hb hH hnc hc)
  have HBY := Lib.hid hb
  clear hb
  go_enter Try.func44, Try.ntmps44
  go_wp2_with fail
  refine HT.out.mono ?_
  rintro e w2 ⟨m, A1, n1, c1, L, rfl, hr1, _, hb2⟩
  have HB2 := Lib.hid hb2
  have HR1 := Lib.hid hr1
  have HSP := Lib.hid (cS_ProofClash hr1 (m : Int))
  have hsz := ct_size (q := (m : Int)) (L := L)
  clear hr1 hb2 HT
  go_wp2_with fail
  refine HSP.out.mono ?_
  rintro e w3 ⟨rfl, hb3⟩
  have HB3 := Lib.hid (HB2.out.trans (hb3.mono HB2.out.size))
  have HQ3 := Lib.hid hb3
  have HO2 := Lib.hid (openS_any n c H A w3 (HBY.out.below (HB3.out.mono hH)) (Nat.le_trans hH HB3.out.size) hnc hc)
  have hs3 := hb3.size
  clear hb3 HSP
  generalize ctT (m : Int) L = T at *
  go_wp2_with fail
  refine HO2.out.mono ?_
  rintro e w4 ⟨rfl, ⟨n4, hn4, h3, h4⟩, hb4⟩
  have hlt4 := h3.lt
  have hs4 := hb4.size
  have hc1 := h3.c1
  have hf1 := h3.frozen 1
  obtain ⟨W5, hW5⟩ : ∃ W, W = w4.setCell ⟨w3.heap.size, 1, none⟩ (.int .i64 63) := ⟨_, rfl⟩
  have H5 : Hid (RdAt W5 w3.heap.size A n4 c 63) := by rw [hW5]; exact h3.set32 (q := 63)
  have hb5 : Below w3.heap.size w3 W5 := by rw [hW5]; exact hb4.setCell (by simp) _
  have HY5 := Lib.hid (h4.below (w' := W5) (by rw [hW5]; exact (Below.refl H w4).setCell (by have := HB3.out.size; simp; omega) _))
  have HQ5 := Lib.hid (HQ3.out.trans (hb5.mono HQ3.out.size))
  have HB5 := Lib.hid (HB3.out.trans (hb5.mono HB3.out.size))
  have hs5 := hb5.size
  have hH3 : H ≤ w3.heap.size := Nat.le_trans hH HB3.out.size
  have HFIN : Hid (∀ w' , W5.grownBy w' (some w3.heap.size) → RwS w' A1 n1 c1 L ∧ Below w.heap.size w w') := Lib.hid (fun w' hg => by
    have hq : Below w2.heap.size w2 w' := HQ5.out.grown hg HQ5.out.size (fun k hk => by injection hk; omega)
    exact ⟨HR1.out.step hq, HB5.out.grown hg HB5.out.size (fun k hk => by injection hk; have := HB3.out.size; omega)⟩)
  clear h3 h4 hb4 hb5 HO2
  by_cases hpf : (ctF (m : Int) L).isSome = true
  · rw [hpf]
    have HPK := Lib.hid (pick_any w3.heap.size n4 c H 63 5 A W5 H5.out HY5.out hH3 (by omega) hn4 (by omega) (by omega))
    clear hpf
    go_wp2_with fail
    rw [← hW5]
    refine HPK.out.mono ?_
    rintro e w6 ⟨⟨k, hk, rfl⟩, hr6, hg6, hz6⟩
    clear hz6
    by_cases hk0 : k = 0
    · subst hk0
      have HOF := Lib.hid (of8_any w3.heap.size n4 c H 64 A w6 hr6 (HY5.out.grown hg6 hH3) hH3 (by omega) hn4)
      have HG6 := Lib.hid hg6
      clear hr6 hg6 HPK
      go_wp2_with fail
      refine HOF.out.mono ?_
      rintro e w7 ⟨u, hu, rfl, hg7⟩
      have HG7 := Lib.hid (grown_trans HG6.out hg7)
      clear hg7
      go_wp2
      go_ret3
      obtain ⟨x1, x3⟩ := HFIN.out _ HG7.out
      exact ⟨m, A1, n1, c1, L, u, rfl, hu, x1, x3⟩
    · have hkn : ((k : Int) == 0) = false := by simp; omega
      have HG6 := Lib.hid hg6
      clear hr6 hg6 HPK hk0
      go_wp2
      go_ret3
      obtain ⟨x1, x3⟩ := HFIN.out _ HG6.out
      exact ⟨m, A1, n1, c1, L, T, rfl, by omega, x1, x3⟩
  · have hk0 : (ctF (m : Int) L).isSome = false := by simpa using hpf
    rw [hk0]
    have HOF := Lib.hid (of8_any w3.heap.size n4 c H 63 A W5 H5.out HY5.out hH3 (by omega) hn4)
    have hs5' : W5.heap.size = w4.heap.size := by rw [hW5]; simp
    rw [hs5'] at HOF
    clear hpf hk0 hs5'
    go_wp2_with fail
    rw [← hW5]
    refine HOF.out.mono ?_
    rintro e w7 ⟨u, hu, rfl, hg7⟩
    have HG7 := Lib.hid hg7
    clear hg7
    go_wp2
    go_ret3
    obtain ⟨x1, x3⟩ := HFIN.out _ HG7.out
    exact ⟨m, A1, n1, c1, L, u, rfl, hu, x1, x3⟩
end Go.Proofs.Ytdndddlikdccgaa
