/- The program's reading of a three. -/
import Derived.Test.YtjpbmhlojpaieaaDoorTri
import Derived.Test.YtjpbmhlojpaieaaDoorPts
import Derived.StillTailTactics
namespace Go.Proofs.YtjpbmhlojpaieaaDoor
open Go.ChangeShapes Go.WideShapes Go.ChangeAt Go.RowKit

/-- What is read: the three, or three noughts. -/
def thrL (n : Int) (l : List Int) : List Int := if Thr n l then l else [0, 0, 0]
theorem thrL_length (n : Int) (l : List Int) : (thrL n l).length = 3 := by
  unfold thrL
  split
  · rename_i h; exact h.1
  · rfl
theorem thr_yes {n : Int} {l : List Int} (h : Thr n l) : thr n l = true ∧ thrL n l = l := ⟨by simpa [thr] using h, by rw [thrL, if_pos h]⟩
theorem thr_no {n : Int} {l : List Int} (h : ¬ Thr n l) : thr n l = false ∧ thrL n l = [0, 0, 0] := ⟨by simpa [thr] using h, by rw [thrL, if_neg h]⟩

theorem thr_pts (n : Int) (l : List Int) : Thr n l ↔ l.length = 3 ∧ Pts n l := Iff.rfl

abbrev zero3 : List Int := [0, 0, 0]
theorem new_tri (w : World) : Tri (w.alloc (.cells #[.int .i64 0, .int .i64 0, .int .i64 0] 69)) w.heap.size zero3 := heap_alloc_new w _

set_option maxRecDepth 10000 in
set_option maxHeartbeats 1000000 in
theorem readThree_any (A : Option Addr) (m c H : Nat) (l : List Int) (n : Int) (w : World) (h : Rd w H A m l) (hH : H ≤ w.heap.size) (hmc : m ≤ c) (hcm : c ≤ 9223372036854775807) :
    Calls Tryd.prog 65 #[.int .i64 n, .slice A m c] w fun e w' => e = .returned (.tuple #[.agg (ints (thrL n l)).toArray, .bool (thr n l)]) ∧ Below w.heap.size w w' := by
  have HL := Lib.hid h.len
  have hw0 : Hid (Tri (w.alloc (.cells #[.int .i64 0, .int .i64 0, .int .i64 0] 69)) w.heap.size zero3) := Lib.hid (new_tri w)
  have hb0 : Below w.heap.size w (w.alloc (.cells #[.int .i64 0, .int .i64 0, .int .i64 0] 69)) := (Below.refl _ _).alloc (Nat.le_refl _) _
  have hr0 : Rd (w.alloc (.cells #[.int .i64 0, .int .i64 0, .int .i64 0] 69)) H A m l := h.below (hb0.mono hH)
  have HS0 := Lib.hid (show w.heap.size < (w.alloc (.cells #[.int .i64 0, .int .i64 0, .int .i64 0] 69)).heap.size by simp)
  clear h
  go_enter Tryd.func65, Tryd.ntmps65
  by_cases hm3 : m = 3
  · subst hm3
    have HPT := Lib.hid (pointsIn_any A 3 c H l n _ hr0 (by omega) hmc hcm)
    go_wp2_with fail
    generalize w.alloc (.cells #[.int .i64 0, .int .i64 0, .int .i64 0] 69) = W0 at *
    generalize hB : w.heap.size = B at *
    have HB := Lib.hid hB
    clear hB
    by_cases hp : Pts n l
    · have HT := Lib.hid (thr_yes ((thr_pts n l).2 ⟨HL.out, hp⟩))
      rw [pts_yes hp] at HPT
      obtain ⟨x, y, z, rfl⟩ := of_three HL.out
      obtain ⟨b, o, rfl, hbH, c0, c1, c2⟩ := rd3 hr0
      clear hr0 hp
      go_wp2_with (go_at_call 51; refine HPT.out.mono ?_; rintro e w' ⟨rfl, rfl⟩)
      go_still_tail 10, (by kernel_rfl)
      change wpList _ _ _ _ _ w'.drew
      refine store_tri rfl (.tmp 4) (.tmp 25) rfl B zero3 [x, y, z] rfl rfl rfl rfl (w := w'.drew) hw0 ?_
      intro w6 HB6 hg6 _
      go_wp2
      exact ret_tri2 rfl B [x, y, z] rfl rfl HB6 rfl ⟨by rw [HT.out.1, HT.out.2]; rfl, by rw [HB.out]; exact hb0.drew.grown hg6 (by have := HS0.out; simp; omega) (by simp)⟩
    · have TF := Lib.hid (thr_no (n := n) (l := l) (fun hh => hp hh.2))
      rw [pts_no hp] at HPT
      clear hr0 hp
      go_wp2_with (first
        | (go_at_call 51; refine HPT.out.mono ?_; rintro e w' ⟨rfl, rfl⟩)
        | (refine store_tri rfl _ _ rfl B zero3 zero3 rfl rfl rfl rfl hw0 ?_; intro w6 HB6 hg6 _))
      exact ret_tri2 rfl B zero3 rfl rfl HB6 rfl ⟨by rw [TF.out.1, TF.out.2]; rfl, by rw [HB.out]; exact hb0.grown hg6 (by have := HS0.out; omega) (by simp)⟩
  · have TF := Lib.hid (thr_no (n := n) (l := l) (fun hh => hm3 (by rw [← HL.out]; exact hh.1)))
    have e0 : ((m : Int) != 3) = true := by simp; omega
    clear hr0 hm3
    go_wp2_with (refine store_tri rfl _ _ rfl w.heap.size zero3 zero3 rfl rfl rfl rfl hw0 ?_; intro w6 HB6 hg6 _)
    exact ret_tri2 rfl w.heap.size zero3 rfl rfl HB6 rfl ⟨by rw [TF.out.1, TF.out.2]; rfl, hb0.grown hg6 (by have := HS0.out; omega) (by simp)⟩
end Go.Proofs.YtjpbmhlojpaieaaDoor
