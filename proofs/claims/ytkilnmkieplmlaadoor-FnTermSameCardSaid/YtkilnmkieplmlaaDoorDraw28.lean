/- The drawer of FnTermSame: two texts. -/
import Derived.Test.YtkilnmkieplmlaaDoorDR
import Derived.Test.YtkilnmkieplmlaaDoorLawU
namespace Go.Proofs.YtkilnmkieplmlaaDoor
open Go.ChangeShapes Go.WideShapes Go.ChangeAt Go.RowKit

theorem cS_TermRingV {w : World} (s : ByteArray) (hs : s.size ≤ 1048576) : Calls Tryd.prog 9 #[.string s] w fun e w' => ∃ v, e = .returned (.tuple #[v, .bool (tringB s.data.toList)]) ∧ NewR w' v (tringR s.data.toList) ∧ Below w.heap.size w w' :=
  (tringS_law w.heap.size s w (Nat.le_refl _) hs).mono fun _ _ ⟨v, e, ho, hb⟩ => ⟨v, e, ho.newR (tringR_length _), hb⟩

set_option maxRecDepth 10000 in
set_option maxHeartbeats 2000000 in
theorem drawTermSame_any (n c H : Nat) (A : Option Addr) (w : World) (hb : Byt w H A n) (hH : H ≤ w.heap.size) (hnc : n ≤ c) (hc : c ≤ 9223372036854775807) :
    Calls Tryd.prog 4 #[.slice A n c] w fun e w' => ∃ s t : ByteArray, e = .returned (.tuple #[.string s, .string t]) ∧ s.size ≤ 100 ∧ t.size ≤ 100 ∧ Below w.heap.size w w' := by
  have HOP := Lib.hid (openS_any n c H A w hb hH hnc hc)
  clear hb
  go_enter Tryd.func4, Tryd.ntmps4
  go_wp2_with fail
  refine HOP.out.mono ?_
  rintro e w1 ⟨rfl, ⟨n', hn', h1, h2⟩, hb1⟩
  have HT := Lib.hid (text92_any w.heap.size n' c H 0 A w1 h1 h2 hH (by omega) hn')
  have HB1 := Lib.hid hb1
  have HY1 := Lib.hid h2
  have hlt := h1.lt
  clear h1 h2 hb1 HOP
  go_wp2_with fail
  refine HT.out.mono ?_
  rintro e w2 ⟨s, q, rfl, hs, h3, hq, hg⟩
  have HB2 := Lib.hid (below_grown HB1.out hg hlt)
  have HY2 := Lib.hid (HY1.out.grown hg hH)
  have HR2 := Lib.hid h3
  have hlt2 := h3.lt
  have HC := Lib.hid (cS_TermRingV (w := w2) s (by omega))
  clear h3 hg HB1 HT HY1
  go_wp2_with fail
  refine HC.out.mono ?_
  rintro e w3 ⟨v, rfl, ⟨A3, n3, c3, rfl, hr⟩, hb3⟩
  have HC2 := Lib.hid (cS_TermOf hr)
  have hs3 := hb3.size
  have HB3 := Lib.hid (HB2.out.trans (hb3.mono HB2.out.size))
  have HQ3 := Lib.hid hb3
  clear hr hb3 HC
  have hof := ofR_size (tringR s.data.toList)
  generalize tringB s.data.toList = p at *
  generalize bs (ofR (tringR s.data.toList)) = t at *
  generalize ringB (tringR s.data.toList) = f at *
  go_wp2_with fail
  refine HC2.out.mono ?_
  rintro e w4 ⟨rfl, hb4⟩
  have HQ4 := Lib.hid (HQ3.out.trans (hb4.mono hs3))
  have HB4 := Lib.hid (HB3.out.trans (hb4.mono HB3.out.size))
  have hs4 := hb4.size
  have HR4 := Lib.hid (HR2.out.same (HQ4.out.block _ hlt2))
  have HY4 := Lib.hid (HY2.out.below (HQ4.out.mono (by omega)))
  clear hb4 HC2 HQ3 HB3 HR2 HY2
  have HPK := Lib.hid (pick_any w.heap.size n' c H q 3 A w4 HR4.out HY4.out hH (by omega) hn' (by omega) (by omega))
  have HT4 := Lib.hid (text92_any w.heap.size n' c H q A w4 HR4.out HY4.out hH (by omega) hn')
  have hlt4 := HR4.out.lt
  cases p with
  | false =>
    clear HPK
    go_wp2_with fail
    refine HT4.out.mono ?_
    rintro e w5 ⟨u, q5, rfl, hu, _, _, hg5⟩
    have HB5 := Lib.hid (below_grown HB4.out hg5 hlt4)
    clear hg5
    go_wp2
    go_ret2
    exact ⟨s, u, rfl, hs, hu, HB5.out⟩
  | true =>
    cases f with
    | false =>
      clear HPK
      go_wp2_with fail
      refine HT4.out.mono ?_
      rintro e w5 ⟨u, q5, rfl, hu, _, _, hg5⟩
      have HB5 := Lib.hid (below_grown HB4.out hg5 hlt4)
      clear hg5
      go_wp2
      go_ret2
      exact ⟨s, u, rfl, hs, hu, HB5.out⟩
    | true =>
      clear HT4
      go_wp2_with fail
      refine HPK.out.mono ?_
      rintro e w5 ⟨⟨k, hk, rfl⟩, hr5, hg5, hz5⟩
      clear hz5
      have HB5 := Lib.hid (below_grown HB4.out hg5 hlt4)
      have hlt5 := hr5.lt
      by_cases hk0 : k = 0
      · subst hk0
        have HT5 := Lib.hid (text92_any w.heap.size n' c H (q + 1) A w5 hr5 (HY4.out.grown hg5 hH) hH (by omega) hn')
        clear hr5 hg5 HPK
        go_wp2_with fail
        refine HT5.out.mono ?_
        rintro e w6 ⟨u, q5, rfl, hu, _, _, hg6⟩
        have HB6 := Lib.hid (below_grown HB5.out hg6 hlt5)
        clear hg6
        go_wp2
        go_ret2
        exact ⟨s, u, rfl, hs, hu, HB6.out⟩
      · have hkn : ((k : Int) > 0) := by omega
        clear hr5 hg5 HPK hk0
        go_wp2
        go_ret2
        exact ⟨s, t, rfl, hs, hof, HB5.out⟩
end Go.Proofs.YtkilnmkieplmlaaDoor
