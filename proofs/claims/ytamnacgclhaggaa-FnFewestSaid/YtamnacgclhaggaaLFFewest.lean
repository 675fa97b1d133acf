/- Three chords need not cross: the law FnFewest. -/
import Derived.Test.YtamnacgclhaggaaDraw44
import Derived.Test.YtamnacgclhaggaaLawFew
namespace Go.Proofs.Ytamnacgclhaggaa
open Go.ChangeShapes Go.WideShapes Go.ChangeAt Go.RowKit

set_option maxRecDepth 10000 in
set_option maxHeartbeats 4000000 in
theorem law_Fewest (a0 : Option Addr) (len0 cap0 : Nat) (z0 : List Int) (w : World) (w0 : IsRow .u8 w a0 len0 cap0 z0) :
    Calls Try.prog 10 #[.slice a0 len0 cap0] w fun e w' => e = .returned (.bool true) ∧ Below w.heap.size w w' := by
  obtain ⟨h, hlc, hcm⟩ := byt_of_row w0
  have HD := Lib.hid (drawPairFewest_any len0 cap0 w.heap.size a0 w h (Nat.le_refl _) hlc hcm)
  clear w0 h
  by_cases hn : len0 ≤ 1048576
  rotate_left
  · go_enter Try.func10, Try.ntmps10
    go_wp2_with fail
    go_ret
    exact ⟨rfl, Below.refl _ _⟩
  go_enter Try.func10, Try.ntmps10
  go_wp2_with fail
  refine HD.out.mono ?_
  rintro e w1 ⟨n1, A2, n2, c2, L, rfl, hr2, hx, hb⟩
  have HB := Lib.hid hb
  have HR2 := Lib.hid hr2
  clear hb hr2 HD
  have HC := Lib.hid (cM_PairFewest HR2.out (n1 : Int))
  go_wp2_with fail
  refine HC.out.mono ?_
  rintro e w2 ⟨v, rfl, ⟨A3, n3, c3, rfl, hr⟩, hb⟩
  replace HB := Lib.hid (bl_step HB.out hb)
  replace HR2 := Lib.hid (HR2.out.step hb)
  have HR3 := Lib.hid hr
  clear hr hb HC
  have HC := Lib.hid (cS_PairFewest HR2.out (n1 : Int))
  go_wp2_with fail
  refine HC.out.mono ?_
  rintro e w3 ⟨v, rfl, ⟨A4, n4, c4, rfl, hr⟩, hb⟩
  replace HB := Lib.hid (bl_step HB.out hb)
  replace HR2 := Lib.hid (HR2.out.step hb)
  replace HR3 := Lib.hid (HR3.out.step hb)
  have HR4 := Lib.hid hr
  clear hr hb HC
  have HS := Lib.hid (fun (W : World) (hb : Below w3.heap.size w3 W) => sameG_any (c' := c3) (d' := c4) (HR3.out.step hb) (HR4.out.step hb))
  rw [same_self] at HS
  by_cases hk : feB (n1 : Int) L = true
  rotate_left
  · rw [(by simpa using hk : feB (n1 : Int) L = false)]
    clear hk HR2 HR3 HR4
    have HZ := Lib.hid (Below.refl w3.heap.size w3)
    go_wp2_with (first | (go_at_call 20; refine (HS.out _ (by first | exact HZ.out | exact HZ.out.drew)).mono ?_; rintro e wz ⟨rfl, hb⟩; replace HZ := Lib.hid (bl_step HZ.out hb); clear hb))
    go_ret
    exact ⟨rfl, bl_step HB.out HZ.out⟩
  obtain ⟨o, e0, e1, e2, h8, e3⟩ := few_told hk
  have hl2 := HR2.out.len
  rw [hl2] at h8 e3
  have E1 : Hid (pcR (feL (n1 : Int) L) L = (o : Int) ∧ pcB (feL (n1 : Int) L) L = true) := ⟨e1, e2⟩
  rw [e0, hk]
  clear hk e0 e1 e2 hl2 hx
  have HZ := Lib.hid (Below.refl w3.heap.size w3)
  go_wp2_with (first | (go_at_call 20; refine (HS.out _ (by first | exact HZ.out | exact HZ.out.drew)).mono ?_; rintro e wz ⟨rfl, hb⟩; replace HZ := Lib.hid (bl_step HZ.out hb); clear hb))
  replace HB := Lib.hid (bl_step HB.out HZ.out)
  replace HR2 := Lib.hid (HR2.out.step HZ.out)
  replace HR3 := Lib.hid (HR3.out.step HZ.out)
  clear HR4
  clear HZ HS
  have HC := Lib.hid (cI_PairChords HR3.out HR2.out)
  rw [E1.out.1, E1.out.2] at HC
  go_wp2_with fail
  refine HC.out.mono ?_
  rintro e w4 ⟨rfl, hb⟩
  replace HB := Lib.hid (bl_step HB.out hb)
  clear HR2
  clear HR3
  clear hb HC
  clear E1
  obtain h | h : n2 ≤ 3 ∨ 3 < n2 := by omega
  · obtain rfl := e3 h
    clear e3
    obtain rfl | rfl | rfl | rfl : n2 = 0 ∨ n2 = 1 ∨ n2 = 2 ∨ n2 = 3 := by omega
    all_goals
      go_wp2
      go_ret
      exact ⟨rfl, HB.out⟩
  · have h' : (3 : Int) < (n2 : Int) := by omega
    clear e3
    go_wp2
    go_ret
    exact ⟨rfl, HB.out⟩
end Go.Proofs.Ytamnacgclhaggaa
