/- Parts are had by some ring: the law FnPart. -/
import Derived.Test.YtgojojoanhilnaaDoorDraw47
import Derived.Test.YtgojojoanhilnaaDoorLawWP
import Derived.Test.YtgojojoanhilnaaDoorWvAr
import Derived.Test.YtgojojoanhilnaaDoorFacL
namespace Go.Proofs.YtgojojoanhilnaaDoor
open Go.ChangeShapes Go.WideShapes Go.ChangeAt Go.RowKit

set_option maxRecDepth 10000 in
set_option maxHeartbeats 4000000 in
theorem law_Part (a0 : Option Addr) (len0 cap0 : Nat) (z0 : List Int) (w : World) (w0 : IsRow .u8 w a0 len0 cap0 z0) (hTAB : Tab w) :
    Calls Tryd.prog 3 #[.slice a0 len0 cap0] w fun e w' => e = .returned (.bool true) ∧ Below w.heap.size w w' := by
  obtain ⟨h, hlc, hcm⟩ := byt_of_row w0
  have HD := Lib.hid (drawWeaveIn_any len0 cap0 w.heap.size a0 w h (Nat.le_refl _) hlc hcm)
  clear w0 h
  by_cases hn : len0 ≤ 1048576
  rotate_left
  · go_enter Tryd.func3, Tryd.ntmps3
    go_wp2_with fail
    go_ret
    exact ⟨rfl, Below.refl _ _⟩
  go_enter Tryd.func3, Tryd.ntmps3
  go_wp2_with fail
  refine HD.out.mono ?_
  rintro e w1 ⟨v, m, p, rfl, ⟨A1, n1, c1, rfl, hr1⟩, hm, hb⟩
  have HB := Lib.hid hb
  have HR1 := Lib.hid hr1
  have HRT := Lib.hid (hTAB.step hb)
  clear hTAB
  clear hb hr1 HD
  have HC := Lib.hid (cI_WeaveIn HR1.out (m : Int))
  go_wp2_with fail
  refine HC.out.mono ?_
  rintro e w2 ⟨rfl, hb⟩
  replace HB := Lib.hid (bl_step HB.out hb)
  replace HR1 := Lib.hid (HR1.out.step hb)
  replace HRT := Lib.hid (HRT.out.step hb)
  clear hb HC
  have HC := Lib.hid (cS_WeaveIn HR1.out (m : Int))
  go_wp2_with fail
  refine HC.out.mono ?_
  rintro e w3 ⟨rfl, hb⟩
  replace HB := Lib.hid (bl_step HB.out hb)
  replace HR1 := Lib.hid (HR1.out.step hb)
  replace HRT := Lib.hid (HRT.out.step hb)
  clear hb HC
  by_cases hk : Prt (m : Int) p
  rotate_left
  · rw [prt_no hk]
    clear hk
    go_wp2
    go_ret
    exact ⟨rfl, HB.out⟩
  rw [prt_yes hk]
  have hl1 := HR1.out.len
  have h36 := hk.1
  have hpl := hk.len
  have hlst : Lst (m : Int) [p] := ⟨h36, by simp, fun l hl => by rw [List.mem_singleton.1 hl]; exact hk⟩
  have e1 : wrR (m : Int) [p] = ((wovenL m [p]).length : Nat) := by rw [wrR, if_pos hlst, Int.toNat_natCast]
  have e2 := part_count hk
  rw [hl1] at e2 hpl
  have hx720 := wovenL_len m [p] (by omega) (by omega)
  obtain ⟨f1, hf1⟩ : ∃ f1, f1 = facN (n1 - 1) := ⟨_, rfl⟩
  obtain ⟨f2, hf2⟩ : ∃ f2, f2 = facN (m - 1) := ⟨_, rfl⟩
  have F1 := Lib.hid (fun W => facW_any (n1 - 1) W (by omega))
  have F2 := Lib.hid (fun W => facW_any (m - 1) W (by omega))
  rw [show ((n1 - 1 : Nat) : Int) = (n1 : Int) - 1 by omega, ← hf1] at F1
  rw [show ((m - 1 : Nat) : Int) = (m : Int) - 1 by omega, ← hf2] at F2
  have b2 := (facN_le (m - 1) (by omega)).2.2
  have b2' := (facN_le (m - 1) (by omega)).2.1
  rw [← hf2] at b2 b2'
  obtain ⟨x, hx⟩ : ∃ x, x = wrR (m : Int) [p] := ⟨_, rfl⟩
  rw [← e1, ← hx, ← hf1, ← hf2] at e2
  have w1' : IntKind.i64.wrap ((n1 : Int) - 1) = (n1 : Int) - 1 := IntWalk.i64_in _ (by omega)
  have w2' : IntKind.i64.wrap ((m : Int) - 1) = (m : Int) - 1 := IntWalk.i64_in _ (by omega)
  have w3' : IntKind.i64.wrap (x * f1) = f2 := by rw [e2]; exact IntWalk.i64_in _ (by omega)
  have E1 : Hid (wrR (m : Int) [p] = x ∧ lst (m : Int) [p] = true) := ⟨hx.symm, (lst_yes hlst).1⟩
  have W3 := Lib.hid w3'
  clear hk h36 hlst e1 e2 hx hf1 hf2 b2 b2' hx720 w3'
  have HC := Lib.hid (cI_WeaveRings (rws_one HR1.out) (m : Int) (HRT.out.step ((Below.refl w3.heap.size w3).alloc (Nat.le_refl _) _)))
  rw [E1.out.1, E1.out.2] at HC
  have HB0 := Lib.hid (fun V (h : Below (w3.alloc (.cells #[.slice A1 n1 c1] 23)).heap.size (w3.alloc (.cells #[.slice A1 n1 c1] 23)) V) => bl_step HB.out (((Below.refl _ _).alloc (Nat.le_refl _) _).trans (h.mono (by simp))))
  clear HR1 HRT HB E1
  have w3' := W3.out
  go_wp2_with (first
    | (go_at_call 9
       refine HC.out.mono ?_
       rintro e w9 ⟨rfl, hb⟩
       have HB := Lib.hid (HB0.out _ hb)
       clear hb HC HB0 W3)
    | (go_at_call 10; with_reducible refine (F1.out _).mono ?_; rintro e w' ⟨rfl, rfl⟩)
    | (go_at_call 10; with_reducible refine (F2.out _).mono ?_; rintro e w' ⟨rfl, rfl⟩))
  go_ret
  exact ⟨rfl, HB.out⟩
end Go.Proofs.YtgojojoanhilnaaDoor
