/- First rings have all arcs of a family: the law FnArcFirst. -/
import Derived.Test.YtheoepbcejlncaaDraw16
import Derived.Test.YtheoepbcejlncaaMArcG
import Derived.Test.YtheoepbcejlncaaSameI
namespace Go.Proofs.Ytheoepbcejlncaa
open Go.ChangeShapes Go.WideShapes Go.ChangeAt Go.RowKit

set_option maxRecDepth 10000 in
set_option maxHeartbeats 4000000 in
theorem law_ArcFirst (a0 : Option Addr) (len0 cap0 : Nat) (z0 : List Int) (w : World) (w0 : IsRow .u8 w a0 len0 cap0 z0) :
    Calls Try.prog 7 #[.slice a0 len0 cap0] w fun e w' => e = .returned (.bool true) ∧ Below w.heap.size w w' := by
  obtain ⟨h, hlc, hcm⟩ := byt_of_rowF w0
  have HD := Lib.hid (drawArcFirst_any len0 cap0 w.heap.size a0 w h (Nat.le_refl _) hlc hcm)
  clear w0 h
  by_cases hn : len0 ≤ 1048576
  rotate_left
  · go_enter Try.func7, Try.ntmps7
    go_wp2_with fail
    go_ret
    exact ⟨rfl, Below.refl _ _⟩
  go_enter Try.func7, Try.ntmps7
  go_wp2_with fail
  refine HD.out.mono ?_
  rintro e w1 ⟨v, L, x, rfl, ⟨A1, n1, c1, rfl, hr1⟩, hl, hb⟩
  have HB := Lib.hid hb
  have HR1 := Lib.hid hr1
  clear hb hr1 HD
  have HC := Lib.hid (cI_ArcFirst HR1.out x)
  go_wp2_with fail
  refine HC.out.mono ?_
  rintro e w2 ⟨v, rfl, ⟨A2, n2, c2, rfl, hr⟩, hb⟩
  replace HB := Lib.hid (bl_step HB.out hb)
  replace HR1 := Lib.hid (HR1.out.step hb)
  have HR2 := Lib.hid hr
  clear hr
  clear hb HC
  have HC := Lib.hid (cS_ArcFirst HR1.out x)
  go_wp2_with fail
  refine HC.out.mono ?_
  rintro e w3 ⟨v, rfl, ⟨A3, n3, c3, rfl, hr⟩, hb⟩
  replace HB := Lib.hid (bl_step HB.out hb)
  replace HR1 := Lib.hid (HR1.out.step hb)
  replace HR2 := Lib.hid (HR2.out.step hb)
  have HR3 := Lib.hid hr
  clear hr
  clear hb HC
  have HS := Lib.hid (fun (W : World) (hb : Below w3.heap.size w3 W) => sameG_any (c' := c2) (d' := c3) (HR2.out.step hb) (HR3.out.step hb))
  rw [same_self] at HS
  by_cases hk : afB x L = true
  rotate_left
  · rw [Bool.not_eq_true] at hk
    rw [hk]
    clear hk HR1 HR2 HR3
    have HZ := Lib.hid (Below.refl w3.heap.size w3)
    go_wp2_with (first | (go_at_call 20; refine (HS.out _ (by first | exact HZ.out | exact HZ.out.drew)).mono ?_; rintro e wz ⟨rfl, hb⟩; replace HZ := Lib.hid (bl_step HZ.out hb); clear hb))
    go_ret
    exact ⟨rfl, bl_step HB.out HZ.out⟩
  rw [hk]
  obtain ⟨hring, hlen, harc⟩ := first_told hk
  have HAR := Lib.hid harc
  have HLN := Lib.hid HR1.out.len
  have hlen2 := HR2.out.len
  have hx : x = (n2 : Int) := by rw [← hlen, hlen2]
  subst hx
  clear hk harc hlen hlen2
  have HZ := Lib.hid (Below.refl w3.heap.size w3)
  go_wp2_with (first | (go_at_call 20; refine (HS.out _ (by first | exact HZ.out | exact HZ.out.drew)).mono ?_; rintro e wz ⟨rfl, hb⟩; replace HZ := Lib.hid (bl_step HZ.out hb); clear hb))
  replace HB := Lib.hid (bl_step HB.out HZ.out)
  replace HR1 := Lib.hid (HR1.out.step HZ.out)
  replace HR2 := Lib.hid (HR2.out.step HZ.out)
  clear HR3
  clear HZ HS
  have HB0 := Lib.hid HB.out
  have HL1 := Lib.hid (fun (W : World) (hb : Below wz.heap.size wz W) => HR1.out.step hb)
  have HC := Lib.hid (fun (W : World) (hb : Below wz.heap.size wz W) (s : Int) (hs : s ∈ L) => by
    have := cI_ArcIsG (HR2.out.step hb) s
    rw [HAR.out s hs] at this
    exact this)
  have HI := Lib.hid (fun (W : World) (hb : Below wz.heap.size wz W) => by
    have := cI_RingInG (HR2.out.step hb)
    rw [ring_yes hring] at this
    exact this)
  have h7 := HR1.out.2.2.2
  have hnn : ((n2 : Int) == (n2 : Int)) = true := by simp
  clear HAR HR1 HR2 HB hring
  go_loopw [9] (fun i wr => ∃ k : Nat, k ≤ n1 ∧ i = .int .i64 k ∧ Hid (Below wz.heap.size wz wr)) (fun i _ => n1 - (intOf i).toNat)
  case atStart => exact ⟨0, Nat.zero_le _, rfl, Below.refl _ _⟩
  case round =>
    obtain ⟨k, hk, rfl, hbl⟩ := hrel
    by_cases hlt : k < n1
    · obtain ⟨b, o, rfl, hbH, hcs⟩ := (HL1.out wr hbl.out).at_ (by omega)
      have hc := hcs k hlt
      have HCk := Lib.hid (HC.out wr hbl.out _ (getD_mem L k (by rw [HLN.out]; exact hlt)))
      clear hcs
      generalize L.getD k 0 = y at *
      go_wp2_with fail
      refine HCk.out.mono ?_
      rintro e w5 ⟨rfl, hb5⟩
      have HB5 := Lib.hid (bl_step hbl.out hb5)
      clear hb5
      go_wp2
      go_roundw
      case rel => exact ⟨k + 1, by omega, by go_num, HB5⟩
      case measure => simp [intOf]; omega
    · obtain rfl : k = n1 := by omega
      have HIk := Lib.hid (HI.out wr hbl.out)
      go_wp2_with fail
      refine HIk.out.mono ?_
      rintro e w5 ⟨rfl, hb5⟩
      have HB5 := Lib.hid (bl_step HB0.out (bl_step hbl.out hb5))
      clear hb5
      go_wp2
      go_ret
      exact ⟨rfl, HB5.out⟩
end Go.Proofs.Ytheoepbcejlncaa
