/- The laws' drawer of ring terms: some text, not long. -/
import Derived.Test.YtoifdfbhhdedbaaDoorDrawO
import Derived.Test.YtoifdfbhhdedbaaDoorDraw6
import Derived.Test.YtoifdfbhhdedbaaDoorTmY
import Derived.Laws.DeepStrings4
import Derived.Laws.Strings3
import Derived.Deep.RegionWith
namespace Go.Proofs.YtoifdfbhhdedbaaDoor
open Go.ChangeShapes Go.WideShapes Go.ChangeAt Go.RowKit

set_option maxHeartbeats 1000000 in
theorem of_any (R n c H p g m : Nat) (A : Option Addr) (L : List ByteArray) (w : World) (hR : RdAt w R A n c p) (hb : Byt w H A n) (hH : H ≤ R) (hp : p ≤ 100000) (hn : n ≤ 2000)
    (hm : L.length = m) (hL : ∀ j (hj : j < L.length), w.cell? ⟨g, j, none⟩ = some (.string L[j])) (hg : g ≠ R) (h1 : 1 ≤ m) (h2 : m ≤ 100) :
    Calls Tryd.prog 55 #[.pointer (some ⟨R, 0, none⟩), .slice (some ⟨g, 0, none⟩) m m] w fun e w' => ∃ s ∈ L, e = .returned (.string s) ∧ RdAt w' R A n c (p + 1) ∧ w.grownBy w' (some R) := by
  have HP := Lib.hid (pick_any R n c H p m A w hR hb hH hp hn h1 (by omega))
  have HL := Lib.hid hL
  have HM := Lib.hid hm
  clear hL hR hb hm
  go_enter Tryd.func55, Tryd.ntmps55
  go_wp2_with fail
  refine HP.out.mono ?_
  rintro e w1 ⟨⟨v, hv, rfl⟩, hr, hgr, hsz⟩
  have hvl : v < L.length := by rw [HM.out]; exact hv
  have hc := hgr.cell (HL.out v hvl) (fun e => hg (by have e1 : g = R := Option.some.inj e; exact e1))
  have HR := Lib.hid hr
  have HG := Lib.hid hgr
  clear hr hgr hsz HP
  go_wp2_with fail
  go_ret
  exact ⟨_, List.getElem_mem hvl, rfl, HR.out, HG.out⟩

theorem sz1 (b : UInt8) : (⟨#[b]⟩ : ByteArray).size = 1 := rfl
theorem sl_both (q : ByteArray) (i j : Nat) (hij : i ≤ j) (hj : j ≤ q.size) : ∃ x : ByteArray, x.size = j - i ∧ ∀ W, (Instr.slice 9 (.string q) (some (.int .i64 (i : Int))) (some (.int .i64 (j : Int))) none).run Tryd.prog W = .ok (.string x) W := by
  refine ⟨q.extract i j, by rw [ByteArray.size_extract]; omega, fun W => ?_⟩
  rw [run_slice_string_if (h := Tryd.underlying9), if_pos (by omega), if_pos (by omega)]
  simp
theorem sl_to (q : ByteArray) (j : Nat) (hj : j ≤ q.size) : ∃ x : ByteArray, x.size = j ∧ ∀ W, (Instr.slice 9 (.string q) none (some (.int .i64 (j : Int))) none).run Tryd.prog W = .ok (.string x) W := by
  refine ⟨q.extract 0 j, by rw [ByteArray.size_extract]; omega, fun W => ?_⟩
  rw [run_slice_string_to_if (h := Tryd.underlying9), if_pos (by omega)]
  simp
theorem sl_from (q : ByteArray) (i : Nat) (hi : i ≤ q.size) : ∃ x : ByteArray, x.size = q.size - i ∧ ∀ W, (Instr.slice 9 (.string q) (some (.int .i64 (i : Int))) none none).run Tryd.prog W = .ok (.string x) W := by
  refine ⟨q.extract i q.size, by rw [ByteArray.size_extract]; omega, fun W => ?_⟩
  rw [run_slice_string_from_if (h := Tryd.underlying9), if_pos (by omega)]
  simp

/-- What the drawer of a row of letters leaves: some text, at most so long; the drawer stands further on. -/
def RowD (R n c p m : Nat) (A : Option Addr) (w : World) (e : Ending) (w' : World) : Prop := ∃ s p', e = .returned (.string s) ∧ s.size + 4 ≤ 7 * m ∧ RdAt w' R A n c p' ∧ p' + 4 ≤ p + 6 * m ∧ w.grownBy w' (some R)

set_option maxRecDepth 10000 in
set_option maxHeartbeats 4000000 in
theorem row92_any (R n c H : Nat) (A : Option Addr) (hH : H ≤ R) (hn : n ≤ 2000) (M : Nat) : ∀ (q : ByteArray) (m p : Nat) (w : World), m ≤ M → q.size = m → 1 ≤ m → m ≤ 7 → p + 6 * m ≤ 90000 → RdAt w R A n c p → Byt w H A n →
    Calls Tryd.prog 54 #[.pointer (some ⟨R, 0, none⟩), .string q] w (RowD R n c p m A w) := by
  induction M with
  | zero => intro q m p w h1 h2 h3; omega
  | succ M ih =>
    intro q m p w hM hq h1 h7 hp hR hb
    have HP := Lib.hid (fun V q k (h1 : RdAt V R A n c q) (h2 : Byt V H A n) (h3 : q ≤ 100000) (h4 : 1 ≤ k) (h5 : k ≤ 1000) => pick_any R n c H q k A V h1 h2 hH h3 hn h4 h5)
    have HI := Lib.hid ih
    have HR := Lib.hid hR
    have HB := Lib.hid hb
    have hRw := hR.lt
    have HQ := Lib.hid hq
    clear ih hR hb
    by_cases hm1 : m = 1
    · subst hm1
      have HRW := HR
      have HBW := HB
      have HGW : Hid (w.grownBy w (some R)) := ⟨rfl, rfl, rfl, Nat.le_refl _, fun _ _ _ => rfl⟩
      obtain ⟨p1, hp1⟩ : ∃ p1, p1 = p := ⟨_, rfl⟩
      rw [← hp1] at HRW
      obtain ⟨s, hs⟩ : ∃ s, s = q := ⟨_, rfl⟩
      have hss : s.size + 6 ≤ 7 * 1 := by rw [hs, hq]; decide
      have hpp : p1 + 6 ≤ p + 6 * 1 := by omega
      obtain ⟨W, hW⟩ : ∃ W, W = w := ⟨_, rfl⟩
      rw [← hW] at HRW HBW HGW
      rw [← hW] at HR HB hRw
      subst hW
      subst hs
      go_enter Tryd.func54, Tryd.ntmps54
      go_wp2_with fail
      refine (HP.out _ p1 8 HRW.out HBW.out (by omega) (by omega) (by omega)).mono ?_
      rintro e wt ⟨⟨v, hv, rfl⟩, ht1, ht2, ht3⟩
      have HT1 := Lib.hid ht1
      have HTB := Lib.hid (HBW.out.grown ht2 hH)
      have HTG := Lib.hid (grown_trans HGW.out ht2)
      have hRt : R < wt.heap.size := ht1.lt
      clear ht1 ht2 ht3
      by_cases hv0 : v = 0
      · subst hv0
        go_wp2_with fail
        go_ret
        exact ⟨_, _, rfl, by first | omega | (simp only [ByteArray.size_append]; omega) | (simp only [ByteArray.size_append, sz1]; omega), HT1.out, by omega, HTG.out⟩
      · by_cases hv1 : v = 1
        · subst hv1
          have HOF := Lib.hid (of_any R n c H (p1 + 1) wt.heap.size 3 A [⟨#[45, 45]⟩, ⟨#[45]⟩, ⟨#[]⟩] (wt.alloc (.cells #[.string ⟨#[45, 45]⟩, .string ⟨#[45]⟩, .string ⟨#[]⟩] 9)) (HT1.out.same (Below.heap_alloc wt _ R hRt)) (HTB.out.grown (World.grownBy_alloc wt _ (some R)) hH) hH (by omega) hn rfl
            (fun j hj => by
              have hj3 : j < 3 := hj
              obtain rfl | rfl | rfl : j = 0 ∨ j = 1 ∨ j = 2 := by omega
              all_goals simp) (by omega) (by omega) (by omega))
          have HGA0 := Lib.hid (grown_trans HTG.out (World.grownBy_alloc wt (.cells #[.string ⟨#[45, 45]⟩, .string ⟨#[45]⟩, .string ⟨#[]⟩] 9) (some R)))
          go_wp2_with fail
          refine HOF.out.mono ?_
          rintro e wo ⟨u, hu, rfl, ho1, ho2⟩
          have hus : u.size ≤ 2 := by
            simp at hu
            rcases hu with rfl | rfl | rfl <;> decide
          have HO1 := Lib.hid ho1
          have HOG := Lib.hid (grown_trans HGA0.out ho2)
          clear hu ho1 ho2
          go_wp2_with fail
          go_ret
          exact ⟨_, _, rfl, by first | omega | (simp only [ByteArray.size_append]; omega) | (simp only [ByteArray.size_append, sz1]; omega), HO1.out, by omega, HOG.out⟩
        · have hv0' : ((v : Int) == 0) = false := by simp; omega
          have hv1' : ((v : Int) == 1) = false := by simp; omega
          go_wp2_with fail
          go_ret
          exact ⟨_, _, rfl, by first | omega | (simp only [ByteArray.size_append]; omega) | (simp only [ByteArray.size_append, sz1]; omega), HT1.out, by omega, HTG.out⟩
    · have hm2 : 2 ≤ m := by omega
      have HPM := HP.out w p (m - 1) HR.out HB.out (by omega) (by omega) (by omega)
      rw [show ((m - 1 : Nat) : Int) = (m : Int) - 1 by omega] at HPM
      have HPM := Lib.hid HPM
      go_enter Tryd.func54, Tryd.ntmps54
      go_wp2_with fail
      refine HPM.out.mono ?_
      rintro e w1 ⟨⟨v, hv, rfl⟩, hr1, hg1, hz1⟩
      obtain ⟨k, hk⟩ : ∃ k : Nat, k = v + 1 := ⟨_, rfl⟩
      have hw : IntKind.i64.wrap (1 + (v : Int)) = (k : Int) := by rw [IntWalk.i64_in _ (by omega)]; omega
      have hk1 : 1 ≤ k := by omega
      have hkm : k < m := by omega
      obtain ⟨qa, hqa, hsa⟩ := sl_to q k (by omega)
      obtain ⟨qb, hqb, hsb⟩ := sl_from q k (by omega)
      have HG1 := Lib.hid hg1
      have HIA := Lib.hid (HI.out qa k (p + 1) w1.drew (by omega) hqa hk1 (by omega) (by omega) hr1 (show Byt w1 H A n from HB.out.grown hg1 hH))
      have HB1 := Lib.hid (HB.out.grown hg1 hH)
      clear hr1 hg1 hz1 HPM hk hv
      go_wp2_with fail
      go_region_with (first
        | (go_at_call_of 54 (Value.string qa); refine HIA.out.mono ?_; rintro e wa ⟨sa, pa, rfl, hsa4, hra, hpa, hga⟩
           have HGA := Lib.hid (grown_trans HG1.out (grown_trans (w1 := w1.drew) ⟨rfl, rfl, rfl, Nat.le_refl _, fun _ _ _ => rfl⟩ hga))
           have HIB := Lib.hid (HI.out qb (m - k) pa wa (by omega) (by omega) (by omega) (by omega) (by omega) hra (HB.out.grown HGA.out hH))
           clear hra hga)
        | (go_at_call_of 54 (Value.string qb); refine HIB.out.mono ?_; rintro e wb ⟨sb, pb, rfl, hsb4, hrb, hpb, hgb⟩
           have HGB := Lib.hid (grown_trans HGA.out hgb)
           have HRB := Lib.hid hrb
           clear hrb hgb))
      all_goals
        obtain ⟨x, hx⟩ : ∃ x, x = ⟨#[40]⟩ ++ sa ++ sb ++ ⟨#[41]⟩ := ⟨_, rfl⟩
        have hxs : x.size + 6 ≤ 7 * m := by
          rw [hx]; simp only [ByteArray.size_append, sz1]; omega
        have hpb : pb + 7 ≤ p + 6 * m := by omega
        have HBB := Lib.hid (HB.out.grown HGB.out hH)
        rw [← hx]
        clear hx hsa hsb hqa hqb hsa4 hsb4 hpa hkm hk1 hw HIA HB1 HG1 HGA HIB HR HB hRw
        by_cases hm2' : m = 2
        · obtain ⟨p1, hp1⟩ : ∃ p1, p1 = pb := ⟨_, rfl⟩
          have HRF := HRB
          have HBF := HBB
          have HGF := HGB
          rw [← hp1] at HRF
          have hpp : p1 + 6 ≤ p + 6 * m := by omega
          clear hp1 hpb HRB HBB HGB
          subst hm2'
          go_wp2_with fail
          go_loopw [5, 7] (fun o i wr => ∃ (j : Nat) (ob : ByteArray), j ≤ 2 ∧ i = .int .i64 j ∧ o = .string ob ∧ ob.size = 1 + j ∧ Hid (RdAt wr R A n c p1) ∧ Hid (Byt wr H A n) ∧ Hid (w.grownBy wr (some R))) (fun _ i _ => 2 - (intOf i).toNat)
          case atStart => exact ⟨0, _, Nat.zero_le _, rfl, rfl, rfl, HRF.out, HBF.out, HGF.out⟩
          case round =>
            obtain ⟨j, ob, hj, rfl, rfl, hob, HRW, HBW, HGW⟩ := hrel
            clear HRF HBF HGF
            by_cases hlt : j < 2
            · obtain ⟨y, hy, hsy⟩ := sl_both q j (j + 1) (by omega) (by omega)
              rw [show ((j + 1 : Nat) : Int) = (j : Int) + 1 by omega] at hsy
              go_wp2_with fail
              go_roundw
              case rel => exact ⟨j + 1, _, by omega, by go_num, rfl, by rw [ByteArray.size_append]; omega, HRW.out, HBW.out, HGW.out⟩
              case measure => simp [intOf]; omega
            · have hjm : j = 2 := by omega
              rw [hjm] at hob
              subst hjm
              go_wp2_with fail
              refine (HP.out _ p1 8 HRW.out HBW.out (by omega) (by omega) (by omega)).mono ?_
              rintro e wt ⟨⟨v, hv, rfl⟩, ht1, ht2, ht3⟩
              have HT1 := Lib.hid ht1
              have HTB := Lib.hid (HBW.out.grown ht2 hH)
              have HTG := Lib.hid (grown_trans HGW.out ht2)
              have hRt : R < wt.heap.size := ht1.lt
              clear ht1 ht2 ht3
              by_cases hv0 : v = 0
              · subst hv0
                go_wp2_with fail
                go_ret
                exact ⟨_, _, rfl, by first | omega | (simp only [ByteArray.size_append]; omega) | (simp only [ByteArray.size_append, sz1]; omega), HT1.out, by omega, HTG.out⟩
              · by_cases hv1 : v = 1
                · subst hv1
                  have HOF := Lib.hid (of_any R n c H (p1 + 1) wt.heap.size 3 A [⟨#[45, 45]⟩, ⟨#[45]⟩, ⟨#[]⟩] (wt.alloc (.cells #[.string ⟨#[45, 45]⟩, .string ⟨#[45]⟩, .string ⟨#[]⟩] 9)) (HT1.out.same (Below.heap_alloc wt _ R hRt)) (HTB.out.grown (World.grownBy_alloc wt _ (some R)) hH) hH (by omega) hn rfl
                    (fun j hj => by
                      have hj3 : j < 3 := hj
                      obtain rfl | rfl | rfl : j = 0 ∨ j = 1 ∨ j = 2 := by omega
                      all_goals simp) (by omega) (by omega) (by omega))
                  have HGA0 := Lib.hid (grown_trans HTG.out (World.grownBy_alloc wt (.cells #[.string ⟨#[45, 45]⟩, .string ⟨#[45]⟩, .string ⟨#[]⟩] 9) (some R)))
                  go_wp2_with fail
                  refine HOF.out.mono ?_
                  rintro e wo ⟨u, hu, rfl, ho1, ho2⟩
                  have hus : u.size ≤ 2 := by
                    simp at hu
                    rcases hu with rfl | rfl | rfl <;> decide
                  have HO1 := Lib.hid ho1
                  have HOG := Lib.hid (grown_trans HGA0.out ho2)
                  clear hu ho1 ho2
                  go_wp2_with fail
                  go_ret
                  exact ⟨_, _, rfl, by first | omega | (simp only [ByteArray.size_append]; omega) | (simp only [ByteArray.size_append, sz1]; omega), HO1.out, by omega, HOG.out⟩
                · have hv0' : ((v : Int) == 0) = false := by simp; omega
                  have hv1' : ((v : Int) == 1) = false := by simp; omega
                  go_wp2_with fail
                  go_ret
                  exact ⟨_, _, rfl, by first | omega | (simp only [ByteArray.size_append]; omega) | (simp only [ByteArray.size_append, sz1]; omega), HT1.out, by omega, HTG.out⟩
        · have heq : ((m : Int) == 2) = false := by simp; omega
          go_wp2_with fail
          refine (HP.out _ pb 3 HRB.out HBB.out (by omega) (by omega) (by omega)).mono ?_
          rintro e wc ⟨⟨v3, hv3, rfl⟩, hc1, hc2, hc3⟩
          have HBF := Lib.hid (HBB.out.grown hc2 hH)
          have HGF := Lib.hid (grown_trans HGB.out hc2)
          have HRF := Lib.hid hc1
          obtain ⟨p1, hp1⟩ : ∃ p1, p1 = pb + 1 := ⟨_, rfl⟩
          rw [← hp1] at HRF
          have hpp : p1 + 6 ≤ p + 6 * m := by omega
          clear hp1 hpb HRB HBB HGB hc1 hc2 hc3
          by_cases hv30 : v3 = 0
          · subst hv30
            go_wp2_with fail
            go_loopw [5, 7] (fun o i wr => ∃ (j : Nat) (ob : ByteArray), j ≤ m ∧ i = .int .i64 j ∧ o = .string ob ∧ ob.size = 1 + j ∧ Hid (RdAt wr R A n c p1) ∧ Hid (Byt wr H A n) ∧ Hid (w.grownBy wr (some R))) (fun _ i _ => m - (intOf i).toNat)
            case atStart => exact ⟨0, _, Nat.zero_le _, rfl, rfl, rfl, HRF.out, HBF.out, HGF.out⟩
            case round =>
              obtain ⟨j, ob, hj, rfl, rfl, hob, HRW, HBW, HGW⟩ := hrel
              clear HRF HBF HGF
              by_cases hlt : j < m
              · obtain ⟨y, hy, hsy⟩ := sl_both q j (j + 1) (by omega) (by omega)
                rw [show ((j + 1 : Nat) : Int) = (j : Int) + 1 by omega] at hsy
                go_wp2_with fail
                go_roundw
                case rel => exact ⟨j + 1, _, by omega, by go_num, rfl, by rw [ByteArray.size_append]; omega, HRW.out, HBW.out, HGW.out⟩
                case measure => simp [intOf]; omega
              · have hjm : j = m := by omega
                rw [hjm] at hob
                subst hjm
                go_wp2_with fail
                refine (HP.out _ p1 8 HRW.out HBW.out (by omega) (by omega) (by omega)).mono ?_
                rintro e wt ⟨⟨v, hv, rfl⟩, ht1, ht2, ht3⟩
                have HT1 := Lib.hid ht1
                have HTB := Lib.hid (HBW.out.grown ht2 hH)
                have HTG := Lib.hid (grown_trans HGW.out ht2)
                have hRt : R < wt.heap.size := ht1.lt
                clear ht1 ht2 ht3
                by_cases hv0 : v = 0
                · subst hv0
                  go_wp2_with fail
                  go_ret
                  exact ⟨_, _, rfl, by first | omega | (simp only [ByteArray.size_append]; omega) | (simp only [ByteArray.size_append, sz1]; omega), HT1.out, by omega, HTG.out⟩
                · by_cases hv1 : v = 1
                  · subst hv1
                    have HOF := Lib.hid (of_any R n c H (p1 + 1) wt.heap.size 3 A [⟨#[45, 45]⟩, ⟨#[45]⟩, ⟨#[]⟩] (wt.alloc (.cells #[.string ⟨#[45, 45]⟩, .string ⟨#[45]⟩, .string ⟨#[]⟩] 9)) (HT1.out.same (Below.heap_alloc wt _ R hRt)) (HTB.out.grown (World.grownBy_alloc wt _ (some R)) hH) hH (by omega) hn rfl
                      (fun j hj => by
                        have hj3 : j < 3 := hj
                        obtain rfl | rfl | rfl : j = 0 ∨ j = 1 ∨ j = 2 := by omega
                        all_goals simp) (by omega) (by omega) (by omega))
                    have HGA0 := Lib.hid (grown_trans HTG.out (World.grownBy_alloc wt (.cells #[.string ⟨#[45, 45]⟩, .string ⟨#[45]⟩, .string ⟨#[]⟩] 9) (some R)))
                    go_wp2_with fail
                    refine HOF.out.mono ?_
                    rintro e wo ⟨u, hu, rfl, ho1, ho2⟩
                    have hus : u.size ≤ 2 := by
                      simp at hu
                      rcases hu with rfl | rfl | rfl <;> decide
                    have HO1 := Lib.hid ho1
                    have HOG := Lib.hid (grown_trans HGA0.out ho2)
                    clear hu ho1 ho2
                    go_wp2_with fail
                    go_ret
                    exact ⟨_, _, rfl, by first | omega | (simp only [ByteArray.size_append]; omega) | (simp only [ByteArray.size_append, sz1]; omega), HO1.out, by omega, HOG.out⟩
                  · have hv0' : ((v : Int) == 0) = false := by simp; omega
                    have hv1' : ((v : Int) == 1) = false := by simp; omega
                    go_wp2_with fail
                    go_ret
                    exact ⟨_, _, rfl, by first | omega | (simp only [ByteArray.size_append]; omega) | (simp only [ByteArray.size_append, sz1]; omega), HT1.out, by omega, HTG.out⟩
          · have hv3' : ((v3 : Int) == 0) = false := by simp; omega
            have HRW := HRF
            have HBW := HBF
            have HGW := HGF
            clear HRF HBF HGF
            obtain ⟨s, hs⟩ : ∃ s, s = x := ⟨_, rfl⟩
            subst hs
            go_wp2_with fail
            refine (HP.out _ p1 8 HRW.out HBW.out (by omega) (by omega) (by omega)).mono ?_
            rintro e wt ⟨⟨v, hv, rfl⟩, ht1, ht2, ht3⟩
            have HT1 := Lib.hid ht1
            have HTB := Lib.hid (HBW.out.grown ht2 hH)
            have HTG := Lib.hid (grown_trans HGW.out ht2)
            have hRt : R < wt.heap.size := ht1.lt
            clear ht1 ht2 ht3
            by_cases hv0 : v = 0
            · subst hv0
              go_wp2_with fail
              go_ret
              exact ⟨_, _, rfl, by first | omega | (simp only [ByteArray.size_append]; omega) | (simp only [ByteArray.size_append, sz1]; omega), HT1.out, by omega, HTG.out⟩
            · by_cases hv1 : v = 1
              · subst hv1
                have HOF := Lib.hid (of_any R n c H (p1 + 1) wt.heap.size 3 A [⟨#[45, 45]⟩, ⟨#[45]⟩, ⟨#[]⟩] (wt.alloc (.cells #[.string ⟨#[45, 45]⟩, .string ⟨#[45]⟩, .string ⟨#[]⟩] 9)) (HT1.out.same (Below.heap_alloc wt _ R hRt)) (HTB.out.grown (World.grownBy_alloc wt _ (some R)) hH) hH (by omega) hn rfl
                  (fun j hj => by
                    have hj3 : j < 3 := hj
                    obtain rfl | rfl | rfl : j = 0 ∨ j = 1 ∨ j = 2 := by omega
                    all_goals simp) (by omega) (by omega) (by omega))
                have HGA0 := Lib.hid (grown_trans HTG.out (World.grownBy_alloc wt (.cells #[.string ⟨#[45, 45]⟩, .string ⟨#[45]⟩, .string ⟨#[]⟩] 9) (some R)))
                go_wp2_with fail
                refine HOF.out.mono ?_
                rintro e wo ⟨u, hu, rfl, ho1, ho2⟩
                have hus : u.size ≤ 2 := by
                  simp at hu
                  rcases hu with rfl | rfl | rfl <;> decide
                have HO1 := Lib.hid ho1
                have HOG := Lib.hid (grown_trans HGA0.out ho2)
                clear hu ho1 ho2
                go_wp2_with fail
                go_ret
                exact ⟨_, _, rfl, by first | omega | (simp only [ByteArray.size_append]; omega) | (simp only [ByteArray.size_append, sz1]; omega), HO1.out, by omega, HOG.out⟩
              · have hv0' : ((v : Int) == 0) = false := by simp; omega
                have hv1' : ((v : Int) == 1) = false := by simp; omega
                go_wp2_with fail
                go_ret
                exact ⟨_, _, rfl, by first | omega | (simp only [ByteArray.size_append]; omega) | (simp only [ByteArray.size_append, sz1]; omega), HT1.out, by omega, HTG.out⟩
end Go.Proofs.YtoifdfbhhdedbaaDoor
