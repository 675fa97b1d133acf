/- Windings by any ring are as often: the law FnWindMost. -/
import Derived.Test.YtbfdbnminjhocaaDraw12
import Derived.Test.YtbfdbnminjhocaaWindO
import Derived.Test.YtbfdbnminjhocaaSameI
namespace Go.Proofs.Ytbfdbnminjhocaa
open Go.ChangeShapes Go.WideShapes Go.ChangeAt Go.RowKit

set_option maxRecDepth 10000 in
set_option maxHeartbeats 4000000 in
theorem law_WindMost (a0 : Option Addr) (len0 cap0 : Nat) (z0 : List Int) (w : World) (w0 : IsRow .u8 w a0 len0 cap0 z0) :
    Calls Try.prog 9 #[.slice a0 len0 cap0] w fun e w' => e = .returned (.bool true) ∧ Below w.heap.size w w' := by
  obtain ⟨h, hlc, hcm⟩ := byt_of_row w0
  have HD := Lib.hid (drawWindMost_any len0 cap0 w.heap.size a0 w h (Nat.le_refl _) hlc hcm)
  clear w0 h
  by_cases hn : len0 ≤ 1048576
  rotate_left
  · go_enter Try.func9, Try.ntmps9
    go_wp2_with fail
    go_ret
    exact ⟨rfl, Below.refl _ _⟩
  go_enter Try.func9, Try.ntmps9
  go_wp2_with fail
  refine HD.out.mono ?_
  rintro e w1 ⟨v, l, x, rfl, ⟨A1, n1, c1, rfl, hr1⟩, hl, hb⟩
  have HB := Lib.hid hb
  have HR1 := Lib.hid hr1
  clear hb hr1 HD
  have HC := Lib.hid (cI_WindMost HR1.out x)
  go_wp2_with fail
  refine HC.out.mono ?_
  rintro e w2 ⟨rfl, hb⟩
  replace HB := Lib.hid (bl_step HB.out hb)
  replace HR1 := Lib.hid (HR1.out.step hb)
  clear hb HC
  have HC := Lib.hid (cS_WindMost HR1.out x)
  go_wp2_with fail
  refine HC.out.mono ?_
  rintro e w3 ⟨rfl, hb⟩
  replace HB := Lib.hid (bl_step HB.out hb)
  replace HR1 := Lib.hid (HR1.out.step hb)
  clear hb HC
  by_cases hk : wmB l x = true
  rotate_left
  · rw [wm_no hk]
    clear hk
    go_wp2
    go_ret
    exact ⟨rfl, HB.out⟩
  rw [hk]
  have e0 := most_count hk
  obtain ⟨hr, h0, h1⟩ := wm_yes hk
  have hln := HR1.out.len
  rw [hln] at e0 h1
  have h3 : 3 ≤ n1 := by have := hr.1.1; omega
  have h7 := HR1.out.2.2.2
  have hc : wcB (n1 : Int) = true := by simp [wcB]; omega
  obtain ⟨m, hm, _, _, e1, e2⟩ := wcR_is hc
  have hm' : m = n1 := by omega
  subst hm'
  have E2 : Hid (wcB (m : Int) = true ∧ wcR (m : Int) = cntL m) := ⟨hc, e1⟩
  obtain ⟨k, hkx⟩ : ∃ k : Nat, x = (k : Int) := ⟨x.toNat, by omega⟩
  subst hkx
  rw [Int.toNat_natCast] at e0
  obtain ⟨d, hd⟩ : ∃ d, (cntL m).getD k 0 = d := ⟨_, rfl⟩
  rw [hd] at e0
  rw [e0]
  have HD := Lib.hid hd
  clear hd
  have hkm : k < m := by omega
  have hki : (k : Int) < (m : Int) := by omega
  clear hk hr h0 h1 hln hc hm e1 e2 e0
  have HC := Lib.hid (cI_WindCounts (m : Int) w3)
  rw [E2.out.1, E2.out.2] at HC
  go_wp2_with fail
  refine HC.out.mono ?_
  rintro e w4 ⟨v, rfl, ⟨A4, n4, c4, rfl, hr⟩, hb⟩
  replace HB := Lib.hid (bl_step HB.out hb)
  replace HR1 := Lib.hid (HR1.out.step hb)
  have HR4 := Lib.hid hr
  clear hr
  clear hb HC
  have hn4 : m = n4 := by have := HR4.out.len; rw [cntL_length] at this; exact this
  subst hn4
  obtain ⟨b, o, e, hbb, hcs⟩ := HR4.out.at_ (by omega)
  subst e
  have hc := hcs k hkm
  rw [HD.out] at hc
  clear hcs HR4 HR1 E2 HD
  go_wp2
  go_ret
  exact ⟨rfl, HB.out⟩
end Go.Proofs.Ytbfdbnminjhocaa
