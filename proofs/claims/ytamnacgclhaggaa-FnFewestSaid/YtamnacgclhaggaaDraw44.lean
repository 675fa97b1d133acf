/- The laws' drawer of chords: a ring, some lists of two. -/
import Derived.Test.YtamnacgclhaggaaDraw37
namespace Go.Proofs.Ytamnacgclhaggaa
open Go.ChangeShapes Go.WideShapes Go.ChangeAt Go.RowKit

attribute [local go_sem ↓] apS_fold in
set_option maxRecDepth 10000 in
set_option maxHeartbeats 4000000 in
theorem chords91_any (R n c H p m : Nat) (A : Option Addr) (w3 : World) (h1 : RdAt w3 R A n c p) (hy : Byt w3 H A n) (hH : H ≤ R) (hp : p ≤ 100) (hn : n ≤ 2000) (h2 : 2 ≤ m) (h7 : m ≤ 7) :
    Calls Try.prog 76 #[.pointer (some ⟨R, 0, none⟩), .int .i64 (m : Int)] w3 fun e w' => ∃ A8 n8 c8 L, e = .returned (.slice A8 n8 c8) ∧ RwS w' A8 n8 c8 L ∧ (n8 ≤ c8 ∧ c8 ≤ 9223372036854775807 ∧ n8 ≤ 9) ∧ w3.grownBy w' (some R) := by
  have hlt3 := h1.lt
  have HC4 : Hid (ScB w3 R H n c p A (w3.alloc (.cells #[] 23)) (.slice (some ⟨w3.heap.size, 0, none⟩) 0 0) []) := by
    refine ⟨GrowS.empty w3 (Nat.le_refl _), h1.same (Below.heap_alloc w3 _ _ h1.lt), hy.grown (World.grownBy_alloc w3 _ _) hH, World.grownBy_alloc w3 _ _⟩
  have HPK := Lib.hid (pick_any R n c H p 9 A (w3.alloc (.cells #[] 23)) HC4.out.r HC4.out.y hH (by omega) (by omega) (by omega) (by omega))
  clear h1 hy
  go_enter Try.func76, Try.ntmps76
  go_wp2_with fail
  refine HPK.out.mono ?_
  rintro e w5 ⟨⟨mm, hmm, rfl⟩, h1, hg, hz⟩
  clear hz
  have HC5 := Lib.hid (HC4.out.grow hlt3 hH hg h1)
  clear h1 hg HPK HC4
  have hwm : IntKind.i64.wrap ((m : Int) - 1) = ((m - 1 : Nat) : Int) := by rw [IntWalk.i64_in _ (by omega)]; omega
  go_wp2
  go_loopw [5, 7] (fun v i wr => ∃ (k : Nat) (L : List (List Int)) (q' : Nat), k ≤ mm ∧ i = .int .i64 k ∧ Hid (L.length = k ∧ ∀ l ∈ L, l.length = 2) ∧ Hid (ScB w3 R H n c q' A wr v L) ∧ q' ≤ 110 + 10 * k) (fun _ i _ => mm - (intOf i).toNat)
  case atStart => exact ⟨0, [], _, Nat.zero_le _, rfl, Lib.hid ⟨rfl, fun l hl => by simp at hl⟩, HC5, by omega⟩
  case round =>
    obtain ⟨k, L, q', hk, rfl, hL, hsc, hq'⟩ := hrel
    clear HC5
    by_cases hltk : k < mm
    · have HP1 := Lib.hid (pick_any R n c H q' m A wr hsc.out.r hsc.out.y hH (by omega) hn (by omega) (by omega))
      go_wp2_with fail
      refine HP1.out.mono ?_
      rintro e w6 ⟨⟨x, hx, rfl⟩, hr6, hg6, hz6⟩
      have HS6 := Lib.hid (hsc.out.grow hlt3 hH hg6 hr6)
      clear hr6 hg6 hz6 hsc HP1
      have HP2 := Lib.hid (pick_any R n c H (q' + 1) (m - 1) A w6 HS6.out.r HS6.out.y hH (by omega) hn (by omega) (by omega))
      go_wp2_with fail
      refine HP2.out.mono ?_
      rintro e wz ⟨⟨y, hy, rfl⟩, hr7, hg7, hz7⟩
      have HSZ := Lib.hid (HS6.out.grow hlt3 hH hg7 hr7)
      clear hr7 hg7 hz7 HS6 HP2
      have hw1 : IntKind.i64.wrap ((x : Int) + 1) = (x : Int) + 1 := IntWalk.i64_in _ (by omega)
      have hw2 : IntKind.i64.wrap ((x : Int) + 1 + (y : Int)) = (x : Int) + 1 + (y : Int) := IntWalk.i64_in _ (by omega)
      have hm0 : ((m : Int) == 0) = false := by simp; omega
      generalize hyy : ((x : Int) + 1 + (y : Int)) % (m : Int) = yy at *
      have HV2 : Hid (RowV (wz.alloc (.cells #[.int .i64 (x : Int), .int .i64 yy] 3)) w3.heap.size (.slice (some ⟨wz.heap.size, 0, none⟩) 2 2) [(x : Int), yy]) := RowV.lit wz HSZ.out.size [(x : Int), yy] (by simp)
      have HS8 := Lib.hid (HSZ.out.alloc hlt3 hH (.cells #[.int .i64 (x : Int), .int .i64 yy] 3))
      obtain ⟨v7, w7, r7, g7, b7, d7⟩ := apS_run (V := wz.alloc (.cells #[.int .i64 (x : Int), .int .i64 yy] 3)) HS8.out.g HS8.out.size HV2.out (by have := hL.out.1; omega)
      have r8 : ∀ ty, (apS #[25, 25] ty #[u5, .slice (some ⟨wz.heap.size + 1, 0, none⟩) 1 1]).run Try.prog ((wz.alloc (.cells #[.int .i64 (x : Int), .int .i64 yy] 3)).alloc (.cells #[.slice (some ⟨wz.heap.size, 0, none⟩) 2 2] 23)) = .ok v7 w7 := by simpa using r7
      clear r7
      have HS9 := Lib.hid (HS8.out.app hlt3 hH g7 b7 d7)
      clear g7 b7 d7 HS8 HSZ HV2
      go_wp2
      go_roundw
      case rel => exact ⟨k + 1, L ++ [[(x : Int), yy]], q' + 1 + 1, by omega, by go_num, Lib.hid ⟨by rw [List.length_append, hL.out.1]; rfl, fun t ht => by
          rcases List.mem_append.1 ht with ht | ht
          · exact hL.out.2 t ht
          · rw [List.mem_singleton.1 ht]; rfl⟩, HS9, by omega⟩
      case measure => simp [intOf]; omega
    · obtain rfl : mm = k := by omega
      have HP1 := Lib.hid (pick_any R n c H q' 40 A wr hsc.out.r hsc.out.y hH (by omega) hn (by omega) (by omega))
      go_wp2_with fail
      refine HP1.out.mono ?_
      rintro e w6 ⟨⟨x, hx, rfl⟩, hr6, hg6, hz6⟩
      have HS6 := Lib.hid (hsc.out.grow hlt3 hH hg6 hr6)
      clear hr6 hg6 hz6 hsc HP1
      have fin : ∀ (W : World) (v : Value) (L' : List (List Int)) (q : Nat), Hid (ScB w3 R H n c q A W v L') → L'.length ≤ 9 → (∀ l ∈ L', l.length = 2) → ∃ A8 n8 c8 L, Ending.returned v = .returned (.slice A8 n8 c8) ∧ RwS W A8 n8 c8 L ∧ (n8 ≤ c8 ∧ c8 ≤ 9223372036854775807 ∧ n8 ≤ 9) ∧ w3.grownBy W (some R) := fun W v L' q h hl hrow => by
        obtain ⟨A8, n8, c8, ev, hrw, hc1, hc2⟩ := rwS_of h.out.g (tot_rows hrow (by omega) (by omega))
        exact ⟨A8, n8, c8, L', by rw [ev], hrw, ⟨hc1, hc2, by rw [← hrw.len]; exact hl⟩, h.out.t⟩
      have FIN := Lib.hid fin
      clear fin
      obtain rfl | ⟨vq, rfl⟩ : x = 0 ∨ ∃ vq, x = vq + 1 := by
        rcases x with _ | vq
        · exact .inl rfl
        · exact .inr ⟨vq, rfl⟩
      · have HV2 : Hid (RowV (w6.alloc (.cells #[.int .i64 0, .int .i64 0] 3)) w3.heap.size (.slice (some ⟨w6.heap.size, 0, none⟩) 2 2) [0, 0]) := RowV.lit w6 HS6.out.size [0, 0] (by simp)
        have HS8 := Lib.hid (HS6.out.alloc hlt3 hH (.cells #[.int .i64 0, .int .i64 0] 3))
        obtain ⟨v7, w7, r7, g7, b7, d7⟩ := apS_run (V := w6.alloc (.cells #[.int .i64 0, .int .i64 0] 3)) HS8.out.g HS8.out.size HV2.out (by have := hL.out.1; omega)
        have r8 : ∀ ty, (apS #[25, 25] ty #[u5, .slice (some ⟨w6.heap.size + 1, 0, none⟩) 1 1]).run Try.prog ((w6.alloc (.cells #[.int .i64 0, .int .i64 0] 3)).alloc (.cells #[.slice (some ⟨w6.heap.size, 0, none⟩) 2 2] 23)) = .ok v7 w7 := by simpa using r7
        clear r7
        have HS9 := Lib.hid (HS8.out.app hlt3 hH g7 b7 d7)
        clear g7 b7 d7 HS8 HS6 HV2
        go_wp2
        go_ret
        exact FIN.out _ _ _ _ HS9 (by rw [List.length_append, hL.out.1]; simp; omega) (fun t ht => by
          rcases List.mem_append.1 ht with ht | ht
          · exact hL.out.2 t ht
          · rw [List.mem_singleton.1 ht]; rfl)
      · have hne : (((vq + 1 : Nat) : Int) == 0) = false := by simp; omega
        go_wp2
        go_ret
        exact FIN.out _ _ _ _ HS6 (by rw [hL.out.1]; omega) hL.out.2
set_option maxRecDepth 10000 in
set_option maxHeartbeats 2000000 in
theorem drawPairFewest_any (n c H : Nat) (A : Option Addr) (w : World) (hb : Byt w H A n) (hH : H ≤ w.heap.size) (hnc : n ≤ c) (hc : c ≤ 9223372036854775807) :
    Calls Try.prog 38 #[.slice A n c] w fun e w' => ∃ (z : Nat) (A2 : Option Addr) (n2 c2 : Nat) (L : List (List Int)), e = .returned (.tuple #[.int .i64 (z : Int), .slice A2 n2 c2]) ∧ RwS w' A2 n2 c2 L ∧ (n2 ≤ c2 ∧ c2 ≤ 9223372036854775807 ∧ n2 ≤ 9) ∧ Below w.heap.size w w' := by
  have HOP := Lib.hid (openS_any n c H A w hb hH hnc hc)
  clear hb
  go_enter Try.func38, Try.ntmps38
  go_wp2_with fail
  refine HOP.out.mono ?_
  rintro e w1 ⟨rfl, ⟨n', hn', h1, h2⟩, hb1⟩
  have HPK := Lib.hid (pick_any w.heap.size n' c H 0 3 A w1 h1 h2 hH (by omega) (by omega) (by omega) (by omega))
  have HB1 := Lib.hid hb1
  have HY1 := Lib.hid h2
  have hlt := h1.lt
  clear h1 h2 hb1 HOP
  go_wp2_with fail
  refine HPK.out.mono ?_
  rintro e w2 ⟨⟨v, hv, rfl⟩, h1, hg, hz⟩
  clear hz
  have HB2 := Lib.hid (below_grown HB1.out hg hlt)
  have HY2 := Lib.hid (HY1.out.grown hg hH)
  obtain ⟨m, hm⟩ : ∃ m : Nat, m = 4 + v := ⟨_, rfl⟩
  have hw1 : IntKind.i64.wrap (4 + (v : Int)) = (m : Int) := by rw [IntWalk.i64_in _ (by omega)]; omega
  have lm4 : 4 ≤ m := by omega
  have lm6 : m ≤ 6 := by omega
  clear hv hm
  have HPK := Lib.hid (pick_any w.heap.size n' c H (0 + 1) 40 A w2 h1 HY2.out hH (by omega) (by omega) (by omega) (by omega))
  have hlt2 := h1.lt
  clear h1 hg HB1 HY1
  go_wp2_with fail
  refine HPK.out.mono ?_
  rintro e w3 ⟨⟨x, hx, rfl⟩, h1, hg, hz⟩
  clear hz
  have HB3 := Lib.hid (below_grown HB2.out hg hlt2)
  have HY3 := Lib.hid (HY2.out.grown hg hH)
  have hlt3 := h1.lt
  have HCH := Lib.hid (chords91_any w.heap.size n' c H (0 + 1 + 1) m A w3 h1 HY3.out hH (by omega) hn' (by omega) (by omega))
  clear h1 hg HB2 HY2 HPK
  have hq : ((x : Int)).tdiv 39 = ((x / 39 : Nat) : Int) := by rw [Int.tdiv_eq_ediv_of_nonneg (by omega)]; omega
  have hq2 : (x : Int) / 39 = ((x / 39 : Nat) : Int) := by omega
  obtain ⟨q5, hq5⟩ : ∃ q5, q5 = x / 39 := ⟨_, rfl⟩
  rw [← hq5] at hq hq2
  have k5 : q5 ≤ 1 := by omega
  have x5 : IntKind.i64.wrap (q5 : Int) = (q5 : Int) := IntWalk.i64_in _ (by omega)
  have y5 : IntKind.i64.wrap ((q5 : Int) * 4) = (q5 : Int) * 4 := IntWalk.i64_in _ (by omega)
  have z5 : IntKind.i64.wrap ((m : Int) + (q5 : Int) * 4) = (m : Int) + (q5 : Int) * 4 := IntWalk.i64_in _ (by omega)
  have HE : Hid ((m : Int) + (q5 : Int) * 4 = ((m + q5 * 4 : Nat) : Int)) := by rw [Hid]; omega
  clear hq5
  go_wp2_with fail
  refine HCH.out.mono ?_
  rintro e w4 ⟨A8, n8, c8, L, rfl, hr8, hx8, hg⟩
  have HB4 := Lib.hid (below_grown HB3.out hg hlt3)
  have HR8 := Lib.hid hr8
  have HX8 := Lib.hid hx8
  clear hr8 hx8 hg HB3 HCH
  go_wp2
  go_ret2
  exact ⟨m + q5 * 4, A8, n8, c8, L, by rw [← HE.out]; rfl, HR8.out, HX8.out, HB4.out⟩
set_option maxRecDepth 10000 in
set_option maxHeartbeats 2000000 in
theorem drawPairChords_any (n c H : Nat) (A : Option Addr) (w : World) (hb : Byt w H A n) (hH : H ≤ w.heap.size) (hnc : n ≤ c) (hc : c ≤ 9223372036854775807) :
    Calls Try.prog 34 #[.slice A n c] w fun e w' => ∃ v l A2 n2 c2 L, e = .returned (.tuple #[v, .slice A2 n2 c2]) ∧ NewR w' v l ∧ RwS w' A2 n2 c2 L ∧ (n2 ≤ c2 ∧ c2 ≤ 9223372036854775807 ∧ n2 ≤ 9) ∧ Below w.heap.size w w' := by
  have HOP := Lib.hid (openS_any n c H A w hb hH hnc hc)
  clear hb
  go_enter Try.func34, Try.ntmps34
  go_wp2_with fail
  refine HOP.out.mono ?_
  rintro e w1 ⟨rfl, ⟨n', hn', h1, h2⟩, hb1⟩
  have HPK := Lib.hid (pick_any w.heap.size n' c H 0 4 A w1 h1 h2 hH (by omega) (by omega) (by omega) (by omega))
  have HB1 := Lib.hid hb1
  have HY1 := Lib.hid h2
  have hlt := h1.lt
  clear h1 h2 hb1 HOP
  go_wp2_with fail
  refine HPK.out.mono ?_
  rintro e w2 ⟨⟨v, hv, rfl⟩, h1, hg, hz⟩
  clear hz
  have HB2 := Lib.hid (below_grown HB1.out hg hlt)
  have HY2 := Lib.hid (HY1.out.grown hg hH)
  obtain ⟨m, hm⟩ : ∃ m : Nat, m = 4 + v := ⟨_, rfl⟩
  have hw1 : IntKind.i64.wrap (4 + (v : Int)) = (m : Int) := by rw [IntWalk.i64_in _ (by omega)]; omega
  have lm4 : 4 ≤ m := by omega
  have lm7 : m ≤ 7 := by omega
  clear hv hm
  have HOF := Lib.hid (of91_any w.heap.size n' c H (0 + 1) m A w2 h1 HY2.out hH (by omega) (by omega) (by omega) (by omega))
  have hlt2 := h1.lt
  clear h1 hg HPK HB1 HY1
  go_wp2_with fail
  refine HOF.out.mono ?_
  rintro e w3 ⟨av, l, q, rfl, hown, ⟨hll, h1, hq⟩, hg⟩
  obtain ⟨Aa, ca, rfl⟩ := hown.slice
  have HLL := Lib.hid hll
  have HOWN := Lib.hid hown.rowV5
  have HB3 := Lib.hid (below_grown HB2.out hg hlt2)
  have HY3 := Lib.hid (HY2.out.grown hg hH)
  rw [hll] at HOWN ⊢
  have hlt3 := h1.lt
  have HCH := Lib.hid (chords91_any w.heap.size n' c H q m A w3 h1 HY3.out hH (by omega) hn' (by omega) lm7)
  clear h1 hg HOF HB2 HY2 hown hll
  go_wp2_with fail
  refine HCH.out.mono ?_
  rintro e w4 ⟨A8, n8, c8, L, rfl, hr8, hx8, hg⟩
  have HB4 := Lib.hid (below_grown HB3.out hg hlt3)
  have HV4 := Lib.hid (HOWN.out.grown5 hg hlt2)
  have HR8 := Lib.hid hr8
  have HX8 := Lib.hid hx8
  clear hr8 hx8 hg HB3 HOWN HCH
  go_wp2
  go_ret2
  exact ⟨_, l, A8, n8, c8, L, rfl, HV4.out.newR (by rw [HLL.out]; exact lm7), HR8.out, HX8.out, HB4.out⟩
end Go.Proofs.Ytamnacgclhaggaa
