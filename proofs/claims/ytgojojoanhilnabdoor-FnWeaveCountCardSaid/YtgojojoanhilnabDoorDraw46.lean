/- The laws' drawer of a part of some points, seldom another list. -/
import Derived.Test.YtgojojoanhilnabDoorScB
import Derived.Test.YtgojojoanhilnabDoorSwM
import Derived.Test.YtgojojoanhilnabDoorFold
import Derived.StillTailTactics
namespace Go.Proofs.YtgojojoanhilnabDoor
open Go.ChangeShapes Go.WideShapes Go.ChangeAt Go.RowKit

theorem partL_pos {l : List Int} {s : Nat} (ht : Tell l) (h0 : 0 < s) (hs : s < 2 ^ l.length) : 0 < (partL l s).length := by
  have h7 := ht.2.1
  have hlow := low_lt s l.length h7 hs (by omega)
  have hmem : ((lowN s : Nat) : Int) ∈ l := ht.has (by omega) (by omega)
  have h1 := (cutL_mem l _ _ hmem).2 hmem
  refine List.length_pos_of_mem (List.mem_filter.2 ⟨h1, ?_⟩)
  have := (low_has s (fits s l.length h7 hs) (by omega)).1
  unfold hasN
  simpa using this
theorem grown_of {w w' : World} {r : Option Nat} (h : Below w.heap.size w w') : w.grownBy w' r := ⟨h.os, h.tape, h.output, h.size, fun j hj _ => h.block j hj⟩
theorem two_pow7 (z : Nat) (h3 : 3 ≤ z) (h7 : z ≤ 7) : ∃ F : Nat, F = 2 ^ z ∧ 8 ≤ F ∧ F ≤ 128 ∧ wrap64 ((2 : Int) ^ z) = (F : Int) ∧ IntKind.i64.wrap ((2 : Int) ^ z) = (F : Int) := by
  refine ⟨2 ^ z, rfl, ?_⟩
  obtain rfl | rfl | rfl | rfl | rfl : z = 3 ∨ z = 4 ∨ z = 5 ∨ z = 6 ∨ z = 7 := by omega
  all_goals exact ⟨by omega, by omega, by simp [wrap64], by first | rfl | decide⟩
def PartD (R n c p m : Nat) (A : Option Addr) (w : World) (e : Ending) (w' : World) : Prop := ∃ v l q, e = .returned v ∧ RowV w' w.heap.size v l ∧ l.length ≤ m + 1 ∧ (RdAt w' R A n c q ∧ q ≤ p + 12) ∧ w.grownBy w' (some R)

attribute [local go_sem ↓] apI_fold in
set_option maxRecDepth 10000 in
set_option maxHeartbeats 2000000 in
theorem part92_any (R n c H p m : Nat) (A : Option Addr) (w : World) (hR : RdAt w R A n c p) (hb : Byt w H A n) (hH : H ≤ R) (hp : p ≤ 90000) (hn : n ≤ 2000) (h3 : 3 ≤ m) (h7 : m ≤ 7) :
    Calls Tryd.prog 40 #[.pointer (some ⟨R, 0, none⟩), .int .i64 (m : Int)] w (PartD R n c p m A w) := by
  have HO := Lib.hid (of91t_any R n c H p m A w hR hb hH hp hn (by omega) h7)
  have HY := Lib.hid hb
  have hlt := hR.lt
  clear hR hb
  obtain ⟨F, hF, f8, f128, p4, p5⟩ := two_pow7 m h3 h7
  have HF := Lib.hid hF
  clear hF
  go_enter Tryd.func40, Tryd.ntmps40
  go_wp2_with fail
  refine HO.out.mono ?_
  rintro e w1 ⟨va, la, q, rfl, hva, ⟨hla, hofa, h1, hq⟩, hg⟩
  have HG1 := Lib.hid hg
  have HY1 := Lib.hid (HY.out.grown hg hH)
  have hlt1 := h1.lt
  have hs1 := hg.size
  obtain ⟨Aa, ca, eva⟩ := hva.slice
  subst eva
  have hra := ofL_ring hla hofa h3 h7
  have HRA := Lib.hid (fun (W : World) (hW : w1.grownBy W (some R)) => (hva.rowV5.same (w' := W) fun j hj => hW.block j (World.ownsRow.lt hva j hj).2 (fun e => by have e1 := Option.some.inj e; have := (World.ownsRow.lt hva j hj).1; omega)).1.rd.2)
  have HPA := Lib.hid (fun (s : Nat) (W : World) (hW : w1.grownBy W (some R)) (hs0 : 0 < s) (hs : s < F) => partS_any Aa la.length ca W.heap.size la s W (HRA.out W hW) (Nat.le_refl _) hra.1 hs0 (by rw [hla, ← HF.out]; exact hs))
  have hpl := fun s : Nat => Nat.le_trans (part_length la s) (by omega : la.length ≤ m)
  have hpp := fun s (h0 : 0 < s) (hs : s < F) => partL_pos (l := la) (s := s) hra.1 h0 (by rw [hla, ← HF.out]; exact hs)
  have HPL := Lib.hid hpl
  have HPP := Lib.hid hpp
  rw [hla] at HPA ⊢
  have HP2 := Lib.hid (pick_any R n c H q (F - 1) A w1 h1 HY1.out hH (by omega) hn (by omega) (by omega))
  rw [show ((F - 1 : Nat) : Int) = (F : Int) - 1 by omega] at HP2
  have pw2 : IntKind.i64.wrap ((F : Int) - 1) = (F : Int) - 1 := IntWalk.i64_in _ (by omega)
  clear HO HRA hg h1 hva hra hofa hla hpl hpp
  go_wp2_with (first
    | (go_at_call 39
       refine HPC.out.mono ?_
       rintro e w4 ⟨vp, rfl, hvp, hb4⟩
       have HG4 := Lib.hid (grown_trans HG3.out (grown_of (r := some R) hb4))
       have HY4 := Lib.hid (HY3.out.grown (grown_of (r := some R) hb4) hH)
       have HR4 := Lib.hid (HR3.out.same (hb4.block R hlt3))
       have hlt4 := HR4.out.lt
       have hs4 := hb4.size
       obtain ⟨Ap, cp, evp⟩ := hvp.slice
       subst evp
       have HO4 := Lib.hid hvp
       clear hvp hb4 HPC HG3 HY3 HR3)
    | (go_at_call 38
       refine HP2.out.mono ?_
       rintro e w3 ⟨⟨v3, hv3, rfl⟩, h1, hg, h3s⟩
       obtain ⟨s, hs⟩ : ∃ s, s = v3 + 1 := ⟨_, rfl⟩
       have ps : IntKind.i64.wrap (1 + (v3 : Int)) = (s : Int) := by
         rw [IntWalk.i64_in _ (by omega)]
         omega
       have hs0 : 0 < s := by omega
       have hs1' : s < F := by omega
       clear hs
       have HPC := Lib.hid (HPA.out s w3 hg hs0 hs1')
       have HG3 := Lib.hid (grown_trans HG1.out hg)
       have HY3 := Lib.hid (HY1.out.grown hg hH)
       have HR3 := Lib.hid h1
       have hlt3 := h1.lt
       have hs3 := HG3.out.size
       have hP7 := HPL.out s
       have hPp := HPP.out s hs0 hs1'
       clear h1 hg h3s HP2 pw2 HPA HPL HPP HG1 HY1
       generalize partL la s = P at *))
  have HQ := Lib.hid (pick_any R n c H (q + 1) 40 A w4 HR4.out HY4.out hH (by omega) hn (by omega) (by omega))
  obtain ⟨np, hnp⟩ : ∃ np, np = P.length := ⟨_, rfl⟩
  rw [← hnp] at hP7 hPp ⊢
  have HNP := Lib.hid hnp
  obtain ⟨bp, op, ep, hbp, hcs⟩ := HO4.out.rd.2.at_ (show 0 < P.length by omega)
  subst ep
  have HX0 := Lib.hid (hcs 0 (by omega))
  rw [Nat.add_zero] at HX0
  have hbw : w3.heap.size ≤ bp := (World.ownsRow.lt HO4.out bp rfl).1
  have hbR : R ≠ bp := by omega
  obtain ⟨x0, hx0⟩ : ∃ x0, x0 = P.getD 0 0 := ⟨_, rfl⟩
  rw [← hx0] at HX0
  have FIN : Hid (∀ (W : World) (v : Value) (l : List Int), w.grownBy W (some R) → RowV W w3.heap.size v l → l.length ≤ m + 1 → RdAt W R A n c (q + 1 + 1) → PartD R n c p m A w (.returned v) W) := fun W v l hg hv hl hr =>
    ⟨v, l, _, rfl, hv.less (by omega), hl, ⟨hr, by omega⟩, hg⟩
  clear hnp hcs hx0 HF p4 p5 hv3 hs0 hs1' ps f8 f128 hq
  go_wp2_with (first | (go_at_call 38
                        refine HQ.out.mono ?_
                        rintro e w5 ⟨⟨v5, hv5, rfl⟩, h1, hg, h3s⟩
                        have HG5 := Lib.hid (grown_trans HG4.out hg)
                        have HR5 := Lib.hid h1
                        have hlt5 := h1.lt
                        have hs5 := hg.size
                        have hc0 : w5.cell? ⟨bp, op, none⟩ = some (.int .i64 x0) := (World.cell?_of_block (hg.block bp hbp (fun e => hbR (Option.some.inj e).symm))).trans HX0.out
                        have HO5 : Hid (Own w5 w3.heap.size (.slice (some ⟨bp, op, none⟩) np cp) P) := by
                          rw [HNP.out]
                          exact own_same HO4.out fun j hj => hg.block j (World.ownsRow.lt HO4.out j hj).2 (fun e => by have := (World.ownsRow.lt HO4.out j hj).1; have := Option.some.inj e; omega)
                        clear h1 hg h3s HQ HG4 HR4 HO4 HY4 HX0
                        obtain ⟨v', w', hrun, hown', hgr⟩ := apI_run HO5.out (by omega) (by rw [← HNP.out]; omega) x0
                        have r8 : ∀ ty, (apI #[26, 26] ty #[.slice (some ⟨bp, op, none⟩) np cp, .slice (some ⟨w5.heap.size, 0, none⟩) 1 1]).run Tryd.prog (w5.alloc (.cells #[.int .i64 x0] 3)) = .ok v' w' := by simpa using hrun
                        have HO6 := Lib.hid hown'.rowV5
                        obtain ⟨A6, c6, e6, hc6, hcm6⟩ := HO6.out.2
                        obtain ⟨z8, hz8⟩ : ∃ z8, z8 = (P ++ [x0]).length := ⟨_, rfl⟩
                        rw [← hz8] at e6 hc6
                        clear hz8
                        subst e6
                        have HL6 : Hid ((P ++ [x0]).length ≤ m + 1) := by rw [Hid, List.length_append, ← HNP.out]; simp; omega
                        have HG6 : Hid (w.grownBy w' (some R)) := ⟨hgr.os.trans HG5.out.os, hgr.tape.trans HG5.out.tape, hgr.output.trans HG5.out.output, by have := hgr.size; simp at this; omega, fun j hj hjR => (hgr.block j (by simp; omega) (fun e => by have := (World.ownsRow.lt HO5.out j e.symm).1; omega)).trans ((Below.heap_alloc w5 _ j (by omega)).trans (HG5.out.block j hj hjR))⟩
                        have HR6 := Lib.hid (HR5.out.same ((hgr.block R (by simp; omega) (fun e => by have := (World.ownsRow.lt HO5.out R e.symm).1; omega)).trans (Below.heap_alloc w5 _ R hlt5)))
                        clear hown' hgr hrun
                        obtain rfl | rfl | ⟨k0, k1⟩ : v5 = 0 ∨ v5 = 1 ∨ (((v5 : Int) == 0) = false ∧ ((v5 : Int) == 1) = false) := by simp; omega))
  · go_wp2
    go_ret
    exact FIN.out _ _ _ HG6.out HO6.out HL6.out HR6.out
  · have HV6 := Lib.hid (RowV.lit w5 (show w3.heap.size ≤ w5.heap.size by omega) [] (by simp))
    have HG6 : Hid (w.grownBy (w5.alloc (.cells #[] 3)) (some R)) := grown_trans HG5.out (World.grownBy_alloc w5 _ _)
    have HR6 := Lib.hid (HR5.out.same (Below.heap_alloc w5 (.cells #[] 3) R hlt5))
    go_wp2
    go_ret
    exact FIN.out _ _ [] HG6.out HV6.out (by simp) HR6.out
  · go_wp2
    go_ret
    exact FIN.out _ _ P HG5.out HO5.out.rowV5 (by rw [← HNP.out]; omega) HR5.out
end Go.Proofs.YtgojojoanhilnabDoor
