/- The laws' drawer of two rings of the same partings. -/
import Derived.Test.YtamnacgclhaggabDraw36
import Derived.Test.YtamnacgclhaggabDR
import Derived.Test.YtamnacgclhaggabMA
import Derived.Test.YtamnacgclhaggabPR
import Derived.OwnWalk
namespace Go.Proofs.Ytamnacgclhaggab
open Go.ChangeShapes Go.WideShapes Go.ChangeAt Go.RowKit

/-- An append to a slice of numbers, by another name. -/
def apC (ts : Array TypeId) (ty : TypeId) (args : Array Value) : Sem Value := Builtin.append_ ts ty args
theorem apC_fold (ts : Array TypeId) (ty : TypeId) (args : Array Value) : Builtin.append_ ts ty args = apC ts ty args := rfl
/-- A row copied behind an empty literal. -/
theorem apC_run {V : World} {g o z cv : Nat} {l : List Int} (hl : l.length = z) (h7 : z ≤ 7) (hc : ∀ j u, (ints l)[j]? = some u → (V.alloc (.cells #[] 3)).cell? ((⟨g, o, none⟩ : Addr).add j) = some u) :
    ∃ v' w', (∀ ty, (apC #[23, 23] ty #[.slice (some ⟨V.heap.size, 0, none⟩) 0 0, .slice (some ⟨g, o, none⟩) z cv]).run Try.prog (V.alloc (.cells #[] 3)) = .ok v' w') ∧ RowV w' V.heap.size v' l ∧ (V.alloc (.cells #[] 3)).grownBy w' (some V.heap.size) := by
  obtain ⟨i0, hi, hz0, hz1, hz2⟩ := info_parts int_info
  obtain ⟨v', w', hrun, hown, hgr, _, hat⟩ := run_append_own_at (P := Try.prog) (V.alloc (.cells #[] 3)) V.heap.size 23 23 3 i0 (.int .i64 0) 1 8 Try.underlying23 hi hz0 hz1 hz2 rfl (by decide) (.slice (some ⟨V.heap.size, 0, none⟩) 0 0) 0 [] (own_empty V _ (Nat.le_refl _)) ⟨g, o, none⟩ z cv (ints l) (by simp [hl]) hc (ints_oneCell l) (by unfold maxLen; omega) (by omega) (by simp)
  refine ⟨v', w', fun _ => hrun, ?_, hgr⟩
  have h : Own w' V.heap.size v' l := by
    unfold Own
    rw [hl]
    simpa using hown
  exact h.rowV5

attribute [local go_sem ↓] apC_fold in
set_option maxRecDepth 10000 in
set_option maxHeartbeats 2000000 in
theorem drawPairSame_any (n c H : Nat) (A : Option Addr) (w : World) (hb : Byt w H A n) (hH : H ≤ w.heap.size) (hnc : n ≤ c) (hc : c ≤ 9223372036854775807) :
    Calls Try.prog 29 #[.slice A n c] w fun e w' => ∃ v v' l l', e = .returned (.tuple #[v, v']) ∧ NewR w' v l ∧ NewR w' v' l' ∧ (l.length ≤ 7 ∧ l'.length ≤ 7) ∧ Below w.heap.size w w' := by
  have HOP := Lib.hid (openS_any n c H A w hb hH hnc hc)
  clear hb
  go_enter Try.func29, Try.ntmps29
  go_wp2_with fail
  refine HOP.out.mono ?_
  rintro e w1 ⟨rfl, ⟨n', hn', h1, h2⟩, hb1⟩
  have HRG := Lib.hid (ring91_any w.heap.size n' c H 0 7 A w1 h1 h2 hH (by omega) hn' (by omega) (by omega))
  have HP := Lib.hid (fun (R : Nat) (hR : R = w.heap.size) V q (h1 : RdAt V R A n' c q) (h2 : Byt V H A n') (h3 : q ≤ 100000) => pick_any R n' c H q 3 A V h1 h2 (by omega) h3 hn' (by omega) (by omega))
  have HOF : Hid (∀ (R : Nat) (hR : R = w.heap.size) (V : World) (q m : Nat) (M : Int), M = (m : Int) → RdAt V R A n' c q → Byt V H A n' → q ≤ 90000 → 1 ≤ m → m ≤ 7 → Calls Try.prog 72 #[.pointer (some ⟨R, 0, none⟩), .int .i64 M] V fun e w' => ∃ v l q', e = .returned v ∧ Own w' V.heap.size v l ∧ (l.length = m ∧ RdAt w' R A n' c q' ∧ q' ≤ q + 10) ∧ V.grownBy w' (some R)) := fun R hR V q m M hM h1 h2 h3 h4 h5 => by
    subst hM
    exact of91_any R n' c H q m A V h1 h2 (by omega) h3 hn' h4 h5
  have HB1 := Lib.hid hb1
  have HY1 := Lib.hid h2
  have hlt := h1.lt
  generalize hR : w.heap.size = R at *
  have HRq := Lib.hid hR
  clear h1 h2 hb1 HOP
  have HPP := Lib.hid (HP.out R rfl)
  have HOO := Lib.hid (HOF.out R rfl)
  clear HP HOF hR
  go_wp2_with fail
  refine HRG.out.mono ?_
  rintro e w2 ⟨v, l, q, rfl, hv, ⟨hl, h1, hq⟩, hg⟩
  have HB2 := Lib.hid (below_grown HB1.out hg hlt)
  have HY2 := Lib.hid (HY1.out.grown hg hH)
  have HV2 := Lib.hid hv
  obtain ⟨Av, cv, ev, hcv1, hcv2⟩ := hv.2
  subst ev
  have HP2 := Lib.hid (HPP.out w2 q h1 HY2.out (by omega))
  have hlt2 := h1.lt
  obtain ⟨z, hz⟩ : ∃ z, z = l.length := ⟨_, rfl⟩
  have HZ := Lib.hid hz
  rw [← hz] at hl hq hcv1 HV2 ⊢
  clear h1 hv hg hz HRG HPP HB1 HY1
  go_wp2_with fail
  refine HP2.out.mono ?_
  rintro e w3 ⟨⟨k, hk, rfl⟩, h1, hg, h3⟩
  have HB3 := Lib.hid (below_grown HB2.out hg hlt2)
  have HY3 := Lib.hid (HY2.out.grown hg hH)
  have HV3 := Lib.hid (HV2.out.grown5 hg hlt)
  have HR3 := Lib.hid h1
  have hlt3 := h1.lt
  have hs3 : R < w3.heap.size := h1.lt
  clear h1 hg h3 HP2 HB2 HY2 HV2
  obtain rfl | rfl | rfl : k = 0 ∨ k = 1 ∨ k = 2 := by omega
  · obtain rfl | rfl | rfl | rfl | rfl | rfl : z = 2 ∨ z = 3 ∨ z = 4 ∨ z = 5 ∨ z = 6 ∨ z = 7 := by omega
    · go_wp2_with fail
      refine (HOO.out w3 _ 3 3 rfl HR3.out HY3.out (by omega) (by omega) (by omega)).mono ?_
      rintro e w4 ⟨v', l', q', rfl, ho', ⟨hl', h1, hq'⟩, hg⟩
      have HV4 := Lib.hid (HV3.out.grown5 hg (by omega))
      have HV' := Lib.hid ho'.rowV5
      have HB4 := Lib.hid (below_grown HB3.out hg hlt3)
      clear h1 hg ho'
      go_wp2
      go_ret2
      exact ⟨_, _, l, l', rfl, HV4.out.newR (by rw [← HZ.out]; exact hl), HV'.out.newR (by omega), ⟨by rw [← HZ.out]; exact hl, by omega⟩, by rw [HRq.out]; exact HB4.out⟩
    · go_wp2_with fail
      refine (HOO.out w3 _ 3 3 rfl HR3.out HY3.out (by omega) (by omega) (by omega)).mono ?_
      rintro e w4 ⟨v', l', q', rfl, ho', ⟨hl', h1, hq'⟩, hg⟩
      have HV4 := Lib.hid (HV3.out.grown5 hg (by omega))
      have HV' := Lib.hid ho'.rowV5
      have HB4 := Lib.hid (below_grown HB3.out hg hlt3)
      clear h1 hg ho'
      go_wp2
      go_ret2
      exact ⟨_, _, l, l', rfl, HV4.out.newR (by rw [← HZ.out]; exact hl), HV'.out.newR (by omega), ⟨by rw [← HZ.out]; exact hl, by omega⟩, by rw [HRq.out]; exact HB4.out⟩
    · go_wp2_with fail
      refine (HOO.out w3 _ 4 4 rfl HR3.out HY3.out (by omega) (by omega) (by omega)).mono ?_
      rintro e w4 ⟨v', l', q', rfl, ho', ⟨hl', h1, hq'⟩, hg⟩
      have HV4 := Lib.hid (HV3.out.grown5 hg (by omega))
      have HV' := Lib.hid ho'.rowV5
      have HB4 := Lib.hid (below_grown HB3.out hg hlt3)
      clear h1 hg ho'
      go_wp2
      go_ret2
      exact ⟨_, _, l, l', rfl, HV4.out.newR (by rw [← HZ.out]; exact hl), HV'.out.newR (by omega), ⟨by rw [← HZ.out]; exact hl, by omega⟩, by rw [HRq.out]; exact HB4.out⟩
    · go_wp2_with fail
      refine (HOO.out w3 _ 5 5 rfl HR3.out HY3.out (by omega) (by omega) (by omega)).mono ?_
      rintro e w4 ⟨v', l', q', rfl, ho', ⟨hl', h1, hq'⟩, hg⟩
      have HV4 := Lib.hid (HV3.out.grown5 hg (by omega))
      have HV' := Lib.hid ho'.rowV5
      have HB4 := Lib.hid (below_grown HB3.out hg hlt3)
      clear h1 hg ho'
      go_wp2
      go_ret2
      exact ⟨_, _, l, l', rfl, HV4.out.newR (by rw [← HZ.out]; exact hl), HV'.out.newR (by omega), ⟨by rw [← HZ.out]; exact hl, by omega⟩, by rw [HRq.out]; exact HB4.out⟩
    · go_wp2_with fail
      refine (HOO.out w3 _ 6 6 rfl HR3.out HY3.out (by omega) (by omega) (by omega)).mono ?_
      rintro e w4 ⟨v', l', q', rfl, ho', ⟨hl', h1, hq'⟩, hg⟩
      have HV4 := Lib.hid (HV3.out.grown5 hg (by omega))
      have HV' := Lib.hid ho'.rowV5
      have HB4 := Lib.hid (below_grown HB3.out hg hlt3)
      clear h1 hg ho'
      go_wp2
      go_ret2
      exact ⟨_, _, l, l', rfl, HV4.out.newR (by rw [← HZ.out]; exact hl), HV'.out.newR (by omega), ⟨by rw [← HZ.out]; exact hl, by omega⟩, by rw [HRq.out]; exact HB4.out⟩
    · go_wp2_with fail
      refine (HOO.out w3 _ 7 7 rfl HR3.out HY3.out (by omega) (by omega) (by omega)).mono ?_
      rintro e w4 ⟨v', l', q', rfl, ho', ⟨hl', h1, hq'⟩, hg⟩
      have HV4 := Lib.hid (HV3.out.grown5 hg (by omega))
      have HV' := Lib.hid ho'.rowV5
      have HB4 := Lib.hid (below_grown HB3.out hg hlt3)
      clear h1 hg ho'
      go_wp2
      go_ret2
      exact ⟨_, _, l, l', rfl, HV4.out.newR (by rw [← HZ.out]; exact hl), HV'.out.newR (by omega), ⟨by rw [← HZ.out]; exact hl, by omega⟩, by rw [HRq.out]; exact HB4.out⟩
  · obtain ⟨hml, hrd⟩ := HV3.out.1.rd
    obtain ⟨g, o, e, hgb, hcs⟩ := hrd.at_ (by omega)
    subst e
    have HCS := Lib.hid hcs
    have HLN : Hid (l.length = z) := HZ.out.symm
    have HTK : Hid (∀ W : World, (∀ z, z < w3.heap.size → W.heap[z]? = w3.heap[z]?) → ∀ j u, (ints l)[j]? = some u → W.cell? ((⟨g, o, none⟩ : Addr).add j) = some u) := fun W hW j u hu => by
      have hj : j < l.length := by
        have := (List.getElem?_eq_some_iff.1 hu).1
        simpa using this
      rw [HLN.out] at hj
      rw [Addr.add_lit, World.cell?_of_block (w := w3) (hW g hgb), HCS.out j hj]
      rw [← hu]
      simp [ints, List.getD, show j < l.length by rw [HLN.out]; exact hj]
    obtain ⟨v4, w4, r4, hv4, hg4⟩ := apC_run (V := w3) (cv := cv) HLN.out hl (HTK.out _ (fun z hz => Below.heap_alloc _ _ _ hz))
    have HV' := Lib.hid hv4
    have HB4 : Hid (Below w3.heap.size w3 w4) := Lib.hid ⟨hg4.os, hg4.tape, hg4.output, by have := hg4.size; simp at this; omega, fun z hz => (hg4.block z (by simp; omega) (fun e => by have := Option.some.inj e; omega)).trans (Below.heap_alloc w3 _ z hz)⟩
    have HV4 := Lib.hid (HV3.out.below5 HB4.out)
    clear HCS hgb hml hrd hcs HOO HR3 HY3 hv4 hg4 HTK
    go_wp2_with fail
    go_ret2
    exact ⟨_, _, l, l, rfl, HV4.out.newR (by rw [← HZ.out]; exact hl), HV'.out.newR (by rw [← HZ.out]; exact hl), ⟨by rw [← HZ.out]; exact hl, by rw [← HZ.out]; exact hl⟩, by rw [HRq.out]; exact HB3.out.trans (HB4.out.mono (by omega))⟩
  · have hrd := HV3.out.1.rd.2
    have HRI := Lib.hid (ringS_any Av z cv w3.heap.size l w3 hrd (by omega))
    have HBK := Lib.hid (backS_any Av z cv w3.heap.size l w3 hrd (Nat.le_refl _) (by omega) hl)
    have fin : ∀ W, Below R w W → RowV W w1.heap.size (.slice Av z cv) l → ∃ v v' l_1 l', Ending.returned (.tuple #[.slice Av z cv, .slice Av z cv]) = .returned (.tuple #[v, v']) ∧ NewR W v l_1 ∧ NewR W v' l' ∧ (l_1.length ≤ 7 ∧ l'.length ≤ 7) ∧ Below w.heap.size w W := fun W hW hV => ⟨_, _, l, l, rfl, hV.newR (by rw [← HZ.out]; exact hl), hV.newR (by rw [← HZ.out]; exact hl), ⟨by rw [← HZ.out]; exact hl, by rw [← HZ.out]; exact hl⟩, by rw [HRq.out]; exact hW⟩
    have FIN := Lib.hid fin
    clear fin hrd
    cases hrb : ringB l with
    | false =>
      rw [hrb] at HRI
      go_wp2_with (go_at_call 52; refine HRI.out.mono ?_; rintro e w' ⟨rfl, rfl⟩)
      go_ret2
      exact FIN.out _ HB3.out HV3.out
    | true =>
      rw [hrb] at HRI
      go_wp2_with (go_at_call 52; refine HRI.out.mono ?_; rintro e w' ⟨rfl, rfl⟩)
      refine HBK.out.mono ?_
      rintro e w4 ⟨v', rfl, ho, hb4⟩
      have HV4 := Lib.hid (HV3.out.below5 hb4)
      have HV' := Lib.hid ho.rowV5
      have HB4 := Lib.hid (HB3.out.trans (hb4.mono (by omega)))
      clear ho hb4 HBK HRI FIN
      go_wp2
      go_ret2
      exact ⟨_, _, l, backL l, rfl, HV4.out.newR (by rw [← HZ.out]; exact hl), HV'.out.newR (by rw [backL_length, ← HZ.out]; exact hl), ⟨by rw [← HZ.out]; exact hl, by rw [backL_length, ← HZ.out]; exact hl⟩, by rw [HRq.out]; exact HB4.out⟩
end Go.Proofs.Ytamnacgclhaggab
