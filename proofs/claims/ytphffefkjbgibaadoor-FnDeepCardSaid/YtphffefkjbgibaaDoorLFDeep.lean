/- P96 as the row's walk asks. -/
import Derived.Test.YtphffefkjbgibaaDoorDR
import Derived.Test.YtphffefkjbgibaaDoorTn4
import Derived.Test.YtphffefkjbgibaaDoorTp1
namespace Go.Proofs.YtphffefkjbgibaaDoor
open Go.ChangeShapes Go.WideShapes Go.ChangeAt Go.RowKit

set_option maxRecDepth 10000 in
set_option maxHeartbeats 4000000 in
theorem law_Deep (a0 : Option Addr) (len0 cap0 : Nat) (z0 : List Int) (w : World) (w0 : IsRow .u8 w a0 len0 cap0 z0) (hand : Hand w) :
    Calls Tryd.prog 3 #[.slice a0 len0 cap0] w fun e w' => e = .returned (.bool true) ∧ Below w.heap.size w w' := by
  obtain ⟨h, hlc, hcm⟩ := byt_of_row w0
  have HD := Lib.hid (drawTermDeep_any len0 cap0 w.heap.size a0 w h (Nat.le_refl _) hlc hcm)
  have HH := Lib.hid hand
  clear w0 h hand
  by_cases hn : len0 ≤ 1048576
  rotate_left
  · go_enter Tryd.func3, Tryd.ntmps3
    go_wp2
    go_ret
    exact ⟨rfl, Below.refl _ _⟩
  go_enter Tryd.func3, Tryd.ntmps3
  go_wp2_with fail
  refine HD.out.mono ?_
  rintro e w1 ⟨s, rfl, hs, hb1⟩
  have HB1 := Lib.hid hb1
  clear hb1 HD
  rcases hr : ringT s.data.toList with _ | t
  · have H1 := Lib.hid (deepI_no s w1 (HH.out.on HB1.out) (by omega) hr)
    have HN := Lib.hid hr
    clear hr
    go_wp2_with fail
    refine H1.out.mono ?_
    rintro e w2 ⟨rfl, hb2⟩
    have HB2 := Lib.hid (HB1.out.trans (hb2.mono HB1.out.size))
    have H2 := Lib.hid (deepS_no s w2 HN.out)
    clear hb2 H1
    go_wp2_with fail
    refine H2.out.mono ?_
    rintro e w3 ⟨rfl, hb3⟩
    have HB3 := Lib.hid (HB2.out.trans (hb3.mono HB2.out.size))
    clear hb3 H2
    go_wp2_with fail
    go_ret
    exact ⟨rfl, HB3.out⟩
  · obtain ⟨h1, hT⟩ := ringT_ok hr
    obtain ⟨hok, hlen, h60⟩ := rdT_ok h1
    have hrow := dep_row t hok
    have hrl : 3 ≤ t.row.length := by have := hT.1; rw [ptsU_len] at this; exact this
    have hpos := dep_pos t (by omega)
    obtain ⟨b, hb⟩ : ∃ b, b = bs t.row := ⟨_, rfl⟩
    have hbs : b.size = t.row.length := by rw [hb, bs_size]
    have HBE := Lib.hid hb
    have HR := Lib.hid hr
    have H1 := Lib.hid (deepI_yes s w1 (HH.out.on HB1.out) (by omega) t hr)
    obtain ⟨dd, hdd⟩ : ∃ dd : Nat, dd = t.dep := ⟨_, rfl⟩
    rw [← hdd, ← hbs] at hrow
    rw [← hdd] at hpos
    have HDD := Lib.hid hdd
    clear hr hb hbs hrl h1 hT hok hlen h60 hdd
    go_wp2_with fail
    refine H1.out.mono ?_
    rintro e w2 ⟨rfl, hb2⟩
    rw [← HDD.out]
    have HB2 := Lib.hid (HB1.out.trans (hb2.mono HB1.out.size))
    have H2 := Lib.hid (deepS_yes s w2 t HR.out)
    clear hb2 H1
    go_wp2_with fail
    refine H2.out.mono ?_
    rintro e w3 ⟨rfl, hb3⟩
    rw [← HDD.out]
    have HB3 := Lib.hid (HB2.out.trans (hb3.mono HB2.out.size))
    have H3 := Lib.hid (rowI_yes s w3 (HH.out.on HB3.out) (by omega) t HR.out)
    clear hb3 H2
    go_wp2_with fail
    refine H3.out.mono ?_
    rintro e w4 ⟨rfl, hb4⟩
    rw [← HBE.out]
    have HB4 := Lib.hid (HB3.out.trans (hb4.mono HB3.out.size))
    clear hb4 H3
    have hc1 : (1 : Int) ≤ (dd : Int) := by omega
    have hc2 : (dd : Int) < (b.size : Int) := by omega
    go_wp2_with fail
    go_ret
    exact ⟨rfl, HB4.out⟩
end Go.Proofs.YtphffefkjbgibaaDoor
