/- Pairs and partings: what they are; the program's reading of them. -/
import Derived.Test.YtamnacgclhaggaaPE
import Derived.Test.YtamnacgclhaggaaMA
import Derived.StillTailTactics
namespace Go.Proofs.Ytamnacgclhaggaa
open Go.ChangeShapes Go.WideShapes Go.ChangeAt Go.RowKit

/-- 2 different points of n. -/
def Two (n : Int) (l : List Int) : Prop := l.length = 2 ∧ Pts n l
instance (n : Int) (l : List Int) : Decidable (Two n l) := by unfold Two; infer_instance
def two (n : Int) (l : List Int) : Bool := decide (Two n l)
def twoL (n : Int) (l : List Int) : List Int := if Two n l then l else [0, 0]
theorem twoL_length (n : Int) (l : List Int) : (twoL n l).length = 2 := by
  unfold twoL
  split
  · rename_i h; exact h.1
  · rfl
theorem two_yes {n : Int} {l : List Int} (h : Two n l) : two n l = true ∧ twoL n l = l := ⟨by simpa [two] using h, by rw [twoL, if_pos h]⟩
theorem two_no {n : Int} {l : List Int} (h : ¬ Two n l) : two n l = false ∧ twoL n l = [0, 0] := ⟨by simpa [two] using h, by rw [twoL, if_neg h]⟩
theorem of_two {l : List Int} (h : l.length = 2) : ∃ x y, l = [x, y] := by
  match l, h with
  | [x, y], _ => exact ⟨x, y, rfl⟩
theorem rd2 {w : World} {H : Nat} {x y : Int} {A : Option Addr} (h : Rd w H A 2 [x, y]) : ∃ b o, A = some ⟨b, o, none⟩ ∧ b < H ∧ w.cell? ⟨b, o, none⟩ = some (.int .i64 x) ∧ w.cell? ⟨b, o + 1, none⟩ = some (.int .i64 y) := by
  obtain ⟨b, o, e, hb, hc⟩ := h.at_ (by omega)
  exact ⟨b, o, e, hb, hc 0 (by omega), hc 1 (by omega)⟩
theorem readPair_size : (Try.prog.info? 77).map (·.size) = some 2 := by kernel_rfl
theorem readPair_info : (Try.prog.info? 77).map (fun i => (i.zero, i.size, i.bytes)) = some (some (.agg #[.int .i64 0, .int .i64 0]), 2, 16) := by kernel_rfl

set_option maxRecDepth 10000 in
set_option maxHeartbeats 1000000 in
theorem readPair_any (A : Option Addr) (m c H : Nat) (l : List Int) (n : Int) (w : World) (h : Rd w H A m l) (hH : H ≤ w.heap.size) (hmc : m ≤ c) (hcm : c ≤ 9223372036854775807) :
    Calls Try.prog 73 #[.int .i64 n, .slice A m c] w fun e w' => e = .returned (.tuple #[.agg (ints (twoL n l)).toArray, .bool (two n l)]) ∧ Below w.heap.size w w' := by
  have HL := Lib.hid h.len
  have hw0 : Hid (Blk 77 (w.alloc (.cells #[.int .i64 0, .int .i64 0] 77)) w.heap.size [0, 0]) := Lib.hid (heap_alloc_new w _)
  have hb0 : Below w.heap.size w (w.alloc (.cells #[.int .i64 0, .int .i64 0] 77)) := (Below.refl _ _).alloc (Nat.le_refl _) _
  have hr0 : Rd (w.alloc (.cells #[.int .i64 0, .int .i64 0] 77)) H A m l := h.below (hb0.mono hH)
  have HS0 := Lib.hid (show w.heap.size < (w.alloc (.cells #[.int .i64 0, .int .i64 0] 77)).heap.size by simp)
  clear h
  go_enter Try.func73, Try.ntmps73
  by_cases hm3 : m = 2
  · subst hm3
    have HPT := Lib.hid (pointsIn_any A 2 c H l n _ hr0 (by omega) hmc hcm)
    go_wp2_with fail
    generalize w.alloc (.cells #[.int .i64 0, .int .i64 0] 77) = W0 at *
    generalize hB : w.heap.size = B at *
    have HB := Lib.hid hB
    clear hB
    by_cases hp : Pts n l
    · have HT := Lib.hid (two_yes (n := n) (l := l) ⟨HL.out, hp⟩)
      rw [pts_yes hp] at HPT
      obtain ⟨x, y, rfl⟩ := of_two HL.out
      obtain ⟨b, o, rfl, hbH, c0, c1⟩ := rd2 hr0
      clear hr0 hp
      go_wp2_with (go_at_call 98; refine HPT.out.mono ?_; rintro e w' ⟨rfl, rfl⟩)
      go_still_tail 7, (by kernel_rfl)
      change wpList _ _ _ _ _ w'.drew
      refine store_blk rfl 77 2 readPair_size (.tmp 4) (.tmp 22) rfl B [0, 0] [x, y] rfl rfl rfl rfl (w := w'.drew) hw0 ?_
      intro w6 HB6 hg6 _
      go_wp2
      exact ret_blk2 _ 2 readPair_size _ rfl Try.underlying77 rfl B [x, y] rfl rfl HB6 rfl ⟨by rw [HT.out.1, HT.out.2]; rfl, by rw [HB.out]; exact hb0.drew.grown hg6 (by have := HS0.out; simp; omega) (by simp)⟩
    · have TF := Lib.hid (two_no (n := n) (l := l) (fun hh => hp hh.2))
      rw [pts_no hp] at HPT
      clear hr0 hp
      go_wp2_with (first
        | (go_at_call 98; refine HPT.out.mono ?_; rintro e w' ⟨rfl, rfl⟩)
        | (refine store_blk rfl 77 2 readPair_size _ _ rfl B [0, 0] [0, 0] rfl rfl rfl rfl hw0 ?_; intro w6 HB6 hg6 _))
      exact ret_blk2 _ 2 readPair_size _ rfl Try.underlying77 rfl B [0, 0] rfl rfl HB6 rfl ⟨by rw [TF.out.1, TF.out.2]; rfl, by rw [HB.out]; exact hb0.grown hg6 (by have := HS0.out; omega) (by simp)⟩
  · have TF := Lib.hid (two_no (n := n) (l := l) (fun hh => hm3 (by rw [← HL.out]; exact hh.1)))
    have e0 : ((m : Int) != 2) = true := by simp; omega
    clear hr0 hm3
    go_wp2_with (refine store_blk rfl 77 2 readPair_size _ _ rfl w.heap.size [0, 0] [0, 0] rfl rfl rfl rfl hw0 ?_; intro w6 HB6 hg6 _)
    exact ret_blk2 _ 2 readPair_size _ rfl Try.underlying77 rfl w.heap.size [0, 0] rfl rfl HB6 rfl ⟨by rw [TF.out.1, TF.out.2]; rfl, hb0.grown hg6 (by have := HS0.out; omega) (by simp)⟩

/-- 4 different points of n. -/
def Four (n : Int) (l : List Int) : Prop := l.length = 4 ∧ Pts n l
instance (n : Int) (l : List Int) : Decidable (Four n l) := by unfold Four; infer_instance
def four (n : Int) (l : List Int) : Bool := decide (Four n l)
def fourL (n : Int) (l : List Int) : List Int := if Four n l then l else [0, 0, 0, 0]
theorem fourL_length (n : Int) (l : List Int) : (fourL n l).length = 4 := by
  unfold fourL
  split
  · rename_i h; exact h.1
  · rfl
theorem four_yes {n : Int} {l : List Int} (h : Four n l) : four n l = true ∧ fourL n l = l := ⟨by simpa [four] using h, by rw [fourL, if_pos h]⟩
theorem four_no {n : Int} {l : List Int} (h : ¬ Four n l) : four n l = false ∧ fourL n l = [0, 0, 0, 0] := ⟨by simpa [four] using h, by rw [fourL, if_neg h]⟩
theorem of_four {l : List Int} (h : l.length = 4) : ∃ x y z u, l = [x, y, z, u] := by
  match l, h with
  | [x, y, z, u], _ => exact ⟨x, y, z, u, rfl⟩
theorem rd4 {w : World} {H : Nat} {x y z u : Int} {A : Option Addr} (h : Rd w H A 4 [x, y, z, u]) : ∃ b o, A = some ⟨b, o, none⟩ ∧ b < H ∧ w.cell? ⟨b, o, none⟩ = some (.int .i64 x) ∧ w.cell? ⟨b, o + 1, none⟩ = some (.int .i64 y) ∧ w.cell? ⟨b, o + 2, none⟩ = some (.int .i64 z) ∧ w.cell? ⟨b, o + 3, none⟩ = some (.int .i64 u) := by
  obtain ⟨b, o, e, hb, hc⟩ := h.at_ (by omega)
  exact ⟨b, o, e, hb, hc 0 (by omega), hc 1 (by omega), hc 2 (by omega), hc 3 (by omega)⟩
theorem readParting_size : (Try.prog.info? 79).map (·.size) = some 4 := by kernel_rfl
theorem readParting_info : (Try.prog.info? 79).map (fun i => (i.zero, i.size, i.bytes)) = some (some (.agg #[.int .i64 0, .int .i64 0, .int .i64 0, .int .i64 0]), 4, 32) := by kernel_rfl

set_option maxRecDepth 10000 in
set_option maxHeartbeats 1000000 in
theorem readParting_any (A : Option Addr) (m c H : Nat) (l : List Int) (n : Int) (w : World) (h : Rd w H A m l) (hH : H ≤ w.heap.size) (hmc : m ≤ c) (hcm : c ≤ 9223372036854775807) :
    Calls Try.prog 61 #[.int .i64 n, .slice A m c] w fun e w' => e = .returned (.tuple #[.agg (ints (fourL n l)).toArray, .bool (four n l)]) ∧ Below w.heap.size w w' := by
  have HL := Lib.hid h.len
  have hw0 : Hid (Blk 79 (w.alloc (.cells #[.int .i64 0, .int .i64 0, .int .i64 0, .int .i64 0] 79)) w.heap.size [0, 0, 0, 0]) := Lib.hid (heap_alloc_new w _)
  have hb0 : Below w.heap.size w (w.alloc (.cells #[.int .i64 0, .int .i64 0, .int .i64 0, .int .i64 0] 79)) := (Below.refl _ _).alloc (Nat.le_refl _) _
  have hr0 : Rd (w.alloc (.cells #[.int .i64 0, .int .i64 0, .int .i64 0, .int .i64 0] 79)) H A m l := h.below (hb0.mono hH)
  have HS0 := Lib.hid (show w.heap.size < (w.alloc (.cells #[.int .i64 0, .int .i64 0, .int .i64 0, .int .i64 0] 79)).heap.size by simp)
  clear h
  go_enter Try.func61, Try.ntmps61
  by_cases hm3 : m = 4
  · subst hm3
    have HPT := Lib.hid (pointsIn_any A 4 c H l n _ hr0 (by omega) hmc hcm)
    go_wp2_with fail
    generalize w.alloc (.cells #[.int .i64 0, .int .i64 0, .int .i64 0, .int .i64 0] 79) = W0 at *
    generalize hB : w.heap.size = B at *
    have HB := Lib.hid hB
    clear hB
    by_cases hp : Pts n l
    · have HT := Lib.hid (four_yes (n := n) (l := l) ⟨HL.out, hp⟩)
      rw [pts_yes hp] at HPT
      obtain ⟨x, y, z, u, rfl⟩ := of_four HL.out
      obtain ⟨b, o, rfl, hbH, c0, c1, c2, c3⟩ := rd4 hr0
      clear hr0 hp
      go_wp2_with (go_at_call 98; refine HPT.out.mono ?_; rintro e w' ⟨rfl, rfl⟩)
      go_still_tail 15, (by kernel_rfl)
      change wpList _ _ _ _ _ w'.drew
      refine store_blk rfl 79 4 readParting_size (.tmp 4) (.tmp 30) rfl B [0, 0, 0, 0] [x, y, z, u] rfl rfl rfl rfl (w := w'.drew) hw0 ?_
      intro w6 HB6 hg6 _
      go_wp2
      exact ret_blk2 _ 4 readParting_size _ rfl Try.underlying79 rfl B [x, y, z, u] rfl rfl HB6 rfl ⟨by rw [HT.out.1, HT.out.2]; rfl, by rw [HB.out]; exact hb0.drew.grown hg6 (by have := HS0.out; simp; omega) (by simp)⟩
    · have TF := Lib.hid (four_no (n := n) (l := l) (fun hh => hp hh.2))
      rw [pts_no hp] at HPT
      clear hr0 hp
      go_wp2_with (first
        | (go_at_call 98; refine HPT.out.mono ?_; rintro e w' ⟨rfl, rfl⟩)
        | (refine store_blk rfl 79 4 readParting_size _ _ rfl B [0, 0, 0, 0] [0, 0, 0, 0] rfl rfl rfl rfl hw0 ?_; intro w6 HB6 hg6 _))
      exact ret_blk2 _ 4 readParting_size _ rfl Try.underlying79 rfl B [0, 0, 0, 0] rfl rfl HB6 rfl ⟨by rw [TF.out.1, TF.out.2]; rfl, by rw [HB.out]; exact hb0.grown hg6 (by have := HS0.out; omega) (by simp)⟩
  · have TF := Lib.hid (four_no (n := n) (l := l) (fun hh => hm3 (by rw [← HL.out]; exact hh.1)))
    have e0 : ((m : Int) != 4) = true := by simp; omega
    clear hr0 hm3
    go_wp2_with (refine store_blk rfl 79 4 readParting_size _ _ rfl w.heap.size [0, 0, 0, 0] [0, 0, 0, 0] rfl rfl rfl rfl hw0 ?_; intro w6 HB6 hg6 _)
    exact ret_blk2 _ 4 readParting_size _ rfl Try.underlying79 rfl w.heap.size [0, 0, 0, 0] rfl rfl HB6 rfl ⟨by rw [TF.out.1, TF.out.2]; rfl, hb0.grown hg6 (by have := HS0.out; omega) (by simp)⟩

end Go.Proofs.Ytamnacgclhaggaa
