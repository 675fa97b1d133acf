/- The laws' drawer of a ring: a list in new memory. -/
import Derived.Test.YtkkcgngbnaidnaaDraw2
import Derived.Test.YtkkcgngbnaidnaaRowV
namespace Go.Proofs.Ytkkcgngbnaidnaa
open Go.ChangeShapes Go.WideShapes Go.ChangeAt Go.RowKit

theorem OwnG.set {w : World} {B g o n c : Nat} {l : List Int} (h : OwnG w B (.slice (some ⟨g, o, none⟩) n c) l) {k : Nat} (hk : k < l.length) (u : Int) :
    OwnG (w.setCell ⟨g, o + k, none⟩ (.int .i64 u)) B (.slice (some ⟨g, o, none⟩) n c) (l.set k u) := by
  rcases h with ⟨e, _⟩ | ⟨g', o', c', cur, e, hb, hg, hc⟩
  · cases e
  · injection e with e1 e2 e3
    injection e1 with e1
    injection e1 with e4 e5 _
    subst e4; subst e5; subst e2; subst e3
    refine .inr ⟨g, o, c, cur.setIfInBounds (o + k) (.int .i64 u), by rw [List.length_set], hb, heap_setCell_same w g (o + k) cur _ _ hg, fun j hj => ?_⟩
    rw [List.length_set] at hj
    have hs : o + k < cur.size := (Array.getElem?_eq_some_iff.1 (hc k hk)).1
    rw [Array.getElem?_setIfInBounds]
    by_cases ejk : j = k
    · subst ejk
      rw [if_pos rfl, if_pos hs]
      simp [List.getD_eq_getElem?_getD, hj]
    · rw [if_neg (by omega), hc j hj]
      simp [List.getD_eq_getElem?_getD, Ne.symm ejk]
theorem OwnG.tail {w : World} {B g o n c : Nat} {l : List Int} (h : OwnG w B (.slice (some ⟨g, o, none⟩) n c) l) (h1 : 1 ≤ l.length) :
    OwnG w B (.slice (some ⟨g, o + 1, none⟩) (n - 1) (c - 1)) (l.drop 1) := by
  rcases h with ⟨e, _⟩ | ⟨g', o', c', cur, e, hb, hg, hc⟩
  · cases e
  · injection e with e1 e2 e3
    injection e1 with e1
    injection e1 with e4 e5 _
    subst e4; subst e5; subst e2; subst e3
    refine .inr ⟨g, o + 1, c - 1, cur, by rw [List.length_drop], hb, hg, fun j hj => ?_⟩
    rw [List.length_drop] at hj
    rw [show o + 1 + j = o + (1 + j) by omega, hc (1 + j) (by omega)]
    simp [List.getD_eq_getElem?_getD, Nat.add_comm]

set_option maxRecDepth 10000 in
set_option maxHeartbeats 2000000 in
theorem ring91_any (R n c H p m : Nat) (A : Option Addr) (w : World) (hR : RdAt w R A n c p) (hb : Byt w H A n) (hH : H ≤ R) (hp : p ≤ 80000) (hn : n ≤ 2000) (hm1 : 3 ≤ m) (hm : m ≤ 7) :
    Calls Try.prog 28 #[.pointer (some ⟨R, 0, none⟩), .int .i64 (m : Int)] w fun e w' => ∃ v l q, e = .returned v ∧ RowV w' w.heap.size v l ∧ (l.length ≤ 7 ∧ RdAt w' R A n c q ∧ (q ≤ p + 20 ∧ 2 ≤ l.length)) ∧ w.grownBy w' (some R) := by
  have HP := Lib.hid (fun V q k (h1 : RdAt V R A n c q) (h2 : Byt V H A n) (h3 : q ≤ 100000) (h4 : 1 ≤ k) (h5 : k ≤ 1000) => pick_any R n c H q k A V h1 h2 hH h3 hn h4 h5)
  have HO := Lib.hid (fun V q k (h1 : RdAt V R A n c q) (h2 : Byt V H A n) (h3 : q ≤ 90000) (h4 : 1 ≤ k) (h5 : k ≤ 7) => of91_any R n c H q k A V h1 h2 hH h3 hn h4 h5)
  have HS := Lib.hid (size91_any R n c H p m A w hR hb hH (by omega) hn hm1 (by omega))
  have HB0 := Lib.hid hb
  have hRw := hR.lt
  clear hR hb
  go_enter Try.func28, Try.ntmps28
  go_wp2_with fail
  refine HS.out.mono ?_
  rintro e w1 ⟨⟨sz, hs3, hsm, rfl⟩, h1, h2, h3⟩
  have HB1 := Lib.hid (HB0.out.grown h2 hH)
  have HO1 := Lib.hid (HO.out w1 (p + 1) sz h1 HB1.out (by omega) (by omega) (by omega))
  have HG1 := Lib.hid h2
  have HZ1 := Lib.hid h3
  clear h1 h2 h3 HS HO
  go_wp2_with fail
  refine HO1.out.mono ?_
  rintro e w2 ⟨v, l, q, rfl, ho, ⟨hl, h1, hq⟩, h2⟩
  have HB2 := Lib.hid (HB1.out.grown h2 hH)
  have HG2 := Lib.hid (grown_trans HG1.out h2)
  have HP2 := Lib.hid (HP.out w2 q 40 h1 HB2.out (by omega) (by omega) (by omega))
  obtain ⟨g, cl, e, hgB, hcl, hcm, hgs⟩ : ∃ g cl, v = .slice (some ⟨g, 0, none⟩) sz cl ∧ w1.heap.size ≤ g ∧ sz ≤ cl ∧ cl ≤ maxLen ∧ g < w2.heap.size := by
    have hown := ho.2
    rw [hl] at hown
    rcases hown with ⟨_, h0⟩ | ⟨g, cap, cur, e, h1, h2, h3, h4, _⟩
    · omega
    · exact ⟨g, cap, e, h1, h3, h4, (Array.getElem?_eq_some_iff.1 h2).1⟩
  have HOG : Hid (OwnG w2 w.heap.size (.slice (some ⟨g, 0, none⟩) sz cl) l) := by
    have h := (own_less ho (B' := w.heap.size) (by rw [HZ1.out]; exact Nat.le_refl _)).gen
    rw [e] at h
    exact h
  subst e
  have HL := Lib.hid hl
  have HCM : Hid (cl ≤ 9223372036854775807) := hcm
  have hgR : g ≠ R := by rw [HZ1.out] at hgB; omega
  clear h1 h2 HO1 ho hl hcm HB0 HG1
  go_wp2_with fail
  refine HP2.out.mono ?_
  rintro e w3 ⟨⟨v3, hv3, rfl⟩, h1, h2, h3⟩
  have HR3 := Lib.hid h1
  have HB3 := Lib.hid (HB2.out.grown h2 hH)
  have HG3 := Lib.hid (grown_trans HG2.out h2)
  have HOG3 := Lib.hid (HOG.out.same (w' := w3) (fun k hk => h2.block k (by simp [Value.ownBlock] at hk; omega) (by simp [Value.ownBlock] at hk; intro e; have e1 : k = R := Option.some.inj e; omega)))
  have hgs3 : g < w3.heap.size := by rw [h3]; exact hgs
  clear h1 h2 h3 HP2 HB2 HG2 HOG hgs
  by_cases e0 : v3 = 0
  · have hb0 : ((v3 : Int) == 0) = true := by simp; omega
    clear e0 hv3
    have hw1 : IntKind.i64.wrap ((sz : Int) + 1) = ((sz + 1 : Nat) : Int) := by rw [IntWalk.i64_in _ (by omega)]; omega
    have HP3 := Lib.hid (HP.out w3 (q + 1) sz HR3.out HB3.out (by omega) (by omega) (by omega))
    go_wp2_with fail
    refine HP3.out.mono ?_
    rintro e w4 ⟨⟨v4, hv4, rfl⟩, h1, h2, h3⟩
    have HB4 := Lib.hid (HB3.out.grown h2 hH)
    have HG4 := Lib.hid (grown_trans HG3.out h2)
    have HP4 := Lib.hid (HP.out w4 (q + 1 + 1) (sz + 1) h1 HB4.out (by omega) (by omega) (by omega))
    have HOG4 := Lib.hid (HOG3.out.same (w' := w4) (fun k hk => h2.block k (by simp [Value.ownBlock] at hk; omega) (by simp [Value.ownBlock] at hk; intro e; have e1 : k = R := Option.some.inj e; omega)))
    have hgs4 : g < w4.heap.size := by rw [h3]; exact hgs3
    clear h1 h2 h3 HB3 HG3 HOG3 HP3 hgs3 HR3
    go_wp2_with fail
    refine HP4.out.mono ?_
    rintro e w5 ⟨⟨v5, hv5, rfl⟩, h1, h2, h3⟩
    have HR5 := Lib.hid h1
    have HG5 := Lib.hid (grown_trans HG4.out h2)
    have HOG5 := Lib.hid (HOG4.out.same (w' := w5) (fun k hk => h2.block k (by simp [Value.ownBlock] at hk; omega) (by simp [Value.ownBlock] at hk; intro e; have e1 : k = R := Option.some.inj e; omega)))
    clear h1 h2 h3 HB4 HG4 HOG4 HP4 hgs4
    obtain ⟨b, o, e, hbl, hcs⟩ := HOG5.out.rd.2.at_ (by omega)
    injection e with e
    injection e with e1 e2 _
    subst e1; subst e2
    have hcell := hcs v4 hv4
    have hfr : w5.frozen? ⟨g, 0 + v4, none⟩ = false := by
      rcases HOG5.out with ⟨e, _⟩ | ⟨g', o', c', cur, e, _, hg, _⟩
      · cases e
      · injection e with e1 _ _
        injection e1 with e1
        injection e1 with e4 e5 _
        subst e4; subst e5
        exact frozen_of_row w5 g _ cur _ hg
    have HST := Lib.hid (HOG5.out.set (k := v4) (by rw [HL.out]; exact hv4) (v5 : Int))
    rw [Nat.zero_add] at hcell hfr HST
    generalize l.getD v4 0 = old at hcell
    have HR6 := Lib.hid (HR5.out.same (w' := w5.setCell ⟨g, v4, none⟩ (.int .i64 (v5 : Int))) (Below.heap_setCell _ _ _ _ (fun e => hgR e.symm)))
    have HG6 : Hid (w.grownBy (w5.setCell ⟨g, v4, none⟩ (.int .i64 (v5 : Int))) (some R)) := ⟨HG5.out.os, HG5.out.tape, HG5.out.output, by simp [World.setCell]; exact HG5.out.size, fun k hk hne => (Below.heap_setCell _ _ _ k (by show k ≠ g; rw [HZ1.out] at hgB; omega)).trans (HG5.out.block k hk hne)⟩
    clear hcs HR5 HG5 HOG5
    go_wp2
    go_ret
    exact ⟨_, l.set v4 (v5 : Int), q + 1 + 1 + 1, rfl, ⟨HST.out, some ⟨g, 0, none⟩, cl, by rw [List.length_set, HL.out]; rfl, by rw [List.length_set, HL.out]; exact hcl, HCM.out⟩, ⟨by rw [List.length_set, HL.out]; omega, HR6.out, by rw [List.length_set, HL.out]; omega⟩, HG6.out⟩
  · have hb0 : ((v3 : Int) == 0) = false := by simp; omega
    by_cases e1 : v3 = 1
    · have hb1 : ((v3 : Int) == 1) = true := by simp; omega
      have hsB : ∀ W : World, (Instr.slice 23 (.slice (some ⟨g, 0, none⟩) sz cl) (some (.int .i64 1)) none none).run Try.prog W = .ok (.slice (some ⟨g, 1, none⟩) (sz - 1) (cl - 1)) W := fun W => by
        have h := slice_tail W g sz cl 1 (by omega) (by omega)
        rw [if_neg (by omega)] at h
        exact h
      have HT := Lib.hid (HOG3.out.tail (by rw [HL.out]; omega))
      clear e0 e1 hv3 HOG3
      go_wp2
      go_ret
      exact ⟨_, l.drop 1, q + 1, rfl, ⟨HT.out, some ⟨g, 1, none⟩, cl - 1, by rw [List.length_drop, HL.out]; rfl, by rw [List.length_drop, HL.out]; omega, by have := HCM.out; omega⟩, ⟨by rw [List.length_drop, HL.out]; omega, HR3.out, by rw [List.length_drop, HL.out]; omega⟩, HG3.out⟩
    · have hb1 : ((v3 : Int) == 1) = false := by simp; omega
      clear e0 e1 hv3
      go_wp2
      go_ret
      exact ⟨_, l, q + 1, rfl, ⟨HOG3.out, some ⟨g, 0, none⟩, cl, by rw [HL.out]; rfl, by rw [HL.out]; exact hcl, HCM.out⟩, ⟨by rw [HL.out]; omega, HR3.out, by rw [HL.out]; omega⟩, HG3.out⟩

end Go.Proofs.Ytkkcgngbnaidnaa
