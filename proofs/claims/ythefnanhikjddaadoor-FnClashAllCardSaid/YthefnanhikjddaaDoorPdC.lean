/- The check of a clash: a closing has a three both ways. -/
import Derived.Test.YthefnanhikjddaaDoorMWork
import Derived.Test.YthefnanhikjddaaDoorPE
namespace Go.Proofs.YthefnanhikjddaaDoor
open Go.ChangeShapes Go.WideShapes Go.ChangeAt Go.RowKit

open Classical in
noncomputable def ckC (K : List (List Int)) (l : List Int) : Bool := decide (l.length = 3) && decide (l ∈ K) && decide (turn3 l ∈ K)

theorem tback_lit (x y z : Int) (w : World) :
    Calls Tryd.prog 47 #[.agg (ints [x, y, z]).toArray] w fun e w' => e = .returned (.agg #[.int .i64 x, .int .i64 z, .int .i64 y]) ∧ Below w.heap.size w w' := tback_any x y z w

set_option maxRecDepth 10000 in
set_option maxHeartbeats 1000000 in
theorem clashesAt_any (mb : Nat) (K : List (List Int)) (A : Option Addr) (c : Nat) (l : List Int) (w : World) (hm : MapK w mb K) (h : Rd w w.heap.size A l.length l) (hb9 : ∀ x ∈ l, 0 ≤ x ∧ x ≤ 9) :
    Calls Tryd.prog 22 #[.map (some mb), .slice A l.length c] w fun e w' => e = .returned (.bool (ckC K l)) ∧ Below w.heap.size w w' := by
  by_cases h3 : l.length = 3
  rotate_left
  · have e : ckC K l = false := by simp [ckC, h3]
    rw [e]
    generalize l.length = n at *
    have hn : ((n : Int) != 3) = true := by simp; omega
    clear h hm e h3
    go_enter Tryd.func22, Tryd.ntmps22
    go_wp2
    go_ret
    exact ⟨rfl, Below.refl _ _⟩
  obtain ⟨x, y, z, rfl⟩ := of_three h3
  have hx := hb9 x (by simp)
  have hy := hb9 y (by simp)
  have hz := hb9 z (by simp)
  have HSM : Hid (Sm [x, y, z]) := Lib.hid ⟨x, y, z, rfl, by omega, by omega, by omega, by omega, by omega, by omega⟩
  have HSN : Hid (Sm [x, z, y]) := Lib.hid ⟨x, z, y, rfl, by omega, by omega, by omega, by omega, by omega, by omega⟩
  have HCK : Hid (ckC K [x, y, z] = (decide ([x, y, z] ∈ K) && decide ([x, z, y] ∈ K))) := by
    rw [Hid, ckC]
    simp [turn3]
  have hlt := hm.lt
  obtain ⟨b, o, rfl, hbH, c0, c1, c2⟩ := rd3 h
  have HM := Lib.hid hm
  have hb1 : Below w.heap.size w (w.alloc (.cells #[.int .i64 x, .int .i64 y, .int .i64 z] 45)).drew := ((Below.refl w.heap.size w).alloc (Nat.le_refl _) _).drew
  have HB1 := Lib.hid hb1
  have hl1 : (Instr.lookup 42 (.map (some mb)) (.agg #[.int .i64 x, .int .i64 y, .int .i64 z]) false).run Tryd.prog (w.alloc (.cells #[.int .i64 x, .int .i64 y, .int .i64 z] 45)).drew = .ok (.bool (decide ([x, y, z] ∈ K))) (w.alloc (.cells #[.int .i64 x, .int .i64 y, .int .i64 z] 45)).drew :=
    MapK.look (t := [x, y, z]) (hm.below hb1 hlt) HSM.out
  have HL2 : Hid (∀ W, Below w.heap.size w W → (Instr.lookup 42 (.map (some mb)) (.agg #[.int .i64 x, .int .i64 z, .int .i64 y]) false).run Tryd.prog W = .ok (.bool (decide ([x, z, y] ∈ K))) W) :=
    fun W hW => MapK.look (t := [x, z, y]) (hm.below hW hlt) HSN.out
  clear hb1 HSM HSN HM
  rw [show ([x, y, z] : List Int).length = 3 from rfl]
  clear h hm hb9 hx hy hz h3
  go_enter Tryd.func22, Tryd.ntmps22
  cases h1 : decide ([x, y, z] ∈ K) with
  | false =>
    have HD : Hid (decide ([x, y, z] ∈ K) = false) := h1
    rw [h1] at hl1
    clear h1
    go_wp2
    go_region
    go_wp2
    go_ret
    exact ⟨by rw [HCK.out, HD.out]; rfl, HB1.out⟩
  | true =>
    have HD : Hid (decide ([x, y, z] ∈ K) = true) := h1
    rw [h1] at hl1
    clear h1
    go_wp2
    go_region
    go_wp2_with fail
    refine (tback_lit x y z _).mono ?_
    rintro e w7 ⟨rfl, hb7⟩
    have HB7 := Lib.hid (HB1.out.trans (hb7.mono HB1.out.size))
    have hl2 := HL2.out w7 HB7.out
    clear hb7
    go_wp2
    go_ret
    exact ⟨by rw [HCK.out, HD.out]; rfl, HB7.out⟩
end Go.Proofs.YthefnanhikjddaaDoor
