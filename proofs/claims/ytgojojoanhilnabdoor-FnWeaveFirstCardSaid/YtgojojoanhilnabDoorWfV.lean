/- WeaveFirst of the program, the capacity of what it gives told. -/
import Derived.Test.YtgojojoanhilnabDoorWvY2
import Derived.Test.YtgojojoanhilnabDoorFirW
namespace Go.Proofs.YtgojojoanhilnabDoor
open Go.ChangeShapes Go.WideShapes Go.ChangeAt Go.RowKit

set_option maxRecDepth 10000 in
set_option maxHeartbeats 1000000 in
theorem wfIv_any (A : Option Addr) (n c H : Nat) (q : Int) (L : List (List Int)) (w : World) (h : RdS w H A n L) (hH : H ≤ w.heap.size) (hn : tot L ≤ 1048576) (hT : Tab w) :
    Calls Tryd.prog 7 #[.int .i64 q, .slice A n c] w fun e w' => ∃ v, e = .returned (.tuple #[v, .bool (wfsB q L)]) ∧ Own w' w.heap.size v (wfsR q L) ∧ Below w.heap.size w w' := by
  have HC := Lib.hid (readParts_any A n c H L q w h hH (by have := h.len; unfold tot at hn; omega) (tot_rows h.len hn))
  have HT := Lib.hid hT
  by_cases ht : Lst q L
  · obtain ⟨k, rfl, h3, h6⟩ := lst_nat ht
    have HTT := Lib.hid ht
    have HR : Hid (wfsR (k : Int) L = rowK (wovenL k L) 0 ∧ wfsB (k : Int) L = decide (0 < (wovenL k L).length)) := ⟨by rw [wfsR, if_pos ht, Int.toNat_natCast], by rw [wfsB, if_pos ht, Int.toNat_natCast]⟩
    rw [(lst_yes ht).1, (lst_yes ht).2] at HC
    rw [HR.out.1, HR.out.2]
    clear h hH ht hT
    go_enter Tryd.func7, Tryd.ntmps7
    go_wp2_with fail
    refine HC.out.mono ?_
    rintro e w1 ⟨v1, rfl, hr1, hb1⟩
    obtain ⟨A1, c1, rfl, _⟩ := hr1.slice
    have HG := Lib.hid (woven_any k A1 L.length c1 w1.heap.size L w1 hr1.rd.2 (Nat.le_refl _) h3 h6 (by have := HTT.out.2.1; omega) HTT.out.2.2 (HT.out.on hb1))
    clear hr1 HC
    go_wp2_with fail
    refine HG.out.mono ?_
    rintro e w2 ⟨v2, rfl, hr2, hb2⟩
    have HB2 := Lib.hid (hb1.trans (hb2.mono hb1.size))
    have HF := Lib.hid (firstListW_any v2 w1.heap.size (wovenL k L) w2 hr2 (by have := wovenL_len k L h3 h6; omega) (fun l hl => by
      have hI := wovenL_is k L h3 h6 l hl
      exact ⟨by rw [hI.1]; omega, by rw [hI.1]; omega, hI.2.1⟩))
    clear hr2 hb1 hb2 HG HR
    go_wp2_with fail
    refine HF.out.mono ?_
    rintro e w3 ⟨v3, rfl, ho3, hb3⟩
    have HO3 := Lib.hid (show Own w3 w.heap.size v3 (rowK (wovenL k L) 0) from (own_less ho3 HB2.out.size))
    have HB3 := Lib.hid (HB2.out.trans (hb3.mono HB2.out.size))
    clear ho3 hb3 HF
    go_wp2
    go_ret2
    exact ⟨v3, rfl, HO3.out, HB3.out⟩
  · have HR : Hid (wfsR q L = [] ∧ wfsB q L = false) := ⟨by rw [wfsR, if_neg ht], by rw [wfsB, if_neg ht]⟩
    rw [(lst_no ht).1] at HC
    rw [HR.out.1, HR.out.2]
    clear h hH ht hT
    go_enter Tryd.func7, Tryd.ntmps7
    go_wp2_with (go_at_call 21; refine HC.out.mono ?_; rintro e w1 ⟨v1, rfl, hp1, hb1⟩; obtain ⟨A1, c1, ev, _⟩ := hp1.slice; subst ev; clear hp1)
    go_ret2
    exact ⟨.slice none 0 0, rfl, ⟨rfl, .inl ⟨rfl, rfl⟩⟩, hb1⟩
end Go.Proofs.YtgojojoanhilnabDoor
