/- Terms with a sign in front tell the ring the other way round: the law FnTermRing. -/
import Derived.Test.YtphffefkjbgibaaDoorDR
import Derived.Test.YtphffefkjbgibaaDoorLawU
import Derived.Test.YtphffefkjbgibaaDoorSameI
namespace Go.Proofs.YtphffefkjbgibaaDoor
open Go.ChangeShapes Go.WideShapes Go.ChangeAt Go.RowKit

set_option maxRecDepth 10000 in
set_option maxHeartbeats 4000000 in
theorem law_TermRing (a0 : Option Addr) (len0 cap0 : Nat) (z0 : List Int) (w : World) (w0 : IsRow .u8 w a0 len0 cap0 z0) (hTAB : Hand w) :
    Calls Tryd.prog 4 #[.slice a0 len0 cap0] w fun e w' => e = .returned (.bool true) ∧ Below w.heap.size w w' := by
  obtain ⟨h, hlc, hcm⟩ := byt_of_row w0
  have HD := Lib.hid (drawTermRing_any len0 cap0 w.heap.size a0 w h (Nat.le_refl _) hlc hcm)
  clear w0 h
  by_cases hn : len0 ≤ 1048576
  rotate_left
  · go_enter Tryd.func4, Tryd.ntmps4
    go_wp2_with fail
    go_ret
    exact ⟨rfl, Below.refl _ _⟩
  go_enter Tryd.func4, Tryd.ntmps4
  go_wp2_with fail
  refine HD.out.mono ?_
  rintro e w1 ⟨s, rfl, hs, hb⟩
  have HB := Lib.hid hb
  have HRT := Lib.hid (hTAB.step hb)
  clear hTAB
  clear hb  HD
  have HC := Lib.hid (cI_TermRing s (by omega) HRT.out)
  go_wp2_with fail
  refine HC.out.mono ?_
  rintro e w2 ⟨v, rfl, ⟨A2, n2, c2, rfl, hr⟩, hb⟩
  replace HB := Lib.hid (bl_step HB.out hb)
  replace HRT := Lib.hid (HRT.out.step hb)
  have HR2 := Lib.hid hr
  clear hr
  clear hb HC
  have HC := Lib.hid (cS_TermRing s (by omega) HRT.out)
  go_wp2_with fail
  refine HC.out.mono ?_
  rintro e w3 ⟨v, rfl, ⟨A3, n3, c3, rfl, hr⟩, hb⟩
  replace HB := Lib.hid (bl_step HB.out hb)
  replace HRT := Lib.hid (HRT.out.step hb)
  replace HR2 := Lib.hid (HR2.out.step hb)
  have HR3 := Lib.hid hr
  clear hr
  clear hb HC
  have HS := Lib.hid (fun (W : World) (hb : Below w3.heap.size w3 W) => sameI_any (HR2.out.step hb) (HR3.out.step hb))
  rw [same_self] at HS
  by_cases hk : tringB s.data.toList = true
  rotate_left
  · rw [(by simpa using hk : tringB s.data.toList = false)]
    clear hk HRT HR2 HR3
    have HZ := Lib.hid (Below.refl w3.heap.size w3)
    go_wp2_with (first | (go_at_call 13; refine (HS.out _ (by first | exact HZ.out | exact HZ.out.drew)).mono ?_; rintro e wz ⟨rfl, hb⟩; replace HZ := Lib.hid (bl_step HZ.out hb); clear hb))
    go_ret
    exact ⟨rfl, bl_step HB.out HZ.out⟩
  rw [hk]
  have E1 := Lib.hid (ring_yes (tring_ring hk))
  have E2 : Hid (s.size ≤ 59 → tringB (⟨#[45]⟩ ++ s : ByteArray).data.toList = true ∧ ringB (tringR (⟨#[45]⟩ ++ s : ByteArray).data.toList) = true ∧ backR (tringR (⟨#[45]⟩ ++ s : ByteArray).data.toList) = tringR s.data.toList) := by
    rw [sign_list]
    exact fun h => by
      obtain ⟨a, b, c⟩ := tring_sign hk (by rwa [ByteArray.size, ← Array.length_toList] at h)
      exact ⟨a, ring_yes b, c⟩
  clear hk
  generalize tringR s.data.toList = o at *
  by_cases h59 : 59 < s.size
  · clear E2
    have HZ := Lib.hid (Below.refl w3.heap.size w3)
    go_wp2_with (first | (go_at_call 13; refine (HS.out _ (by first | exact HZ.out | exact HZ.out.drew)).mono ?_; rintro e wz ⟨rfl, hb⟩; replace HZ := Lib.hid (bl_step HZ.out hb); clear hb))
    replace HB := Lib.hid (bl_step HB.out HZ.out)
    clear HRT
    replace HR2 := Lib.hid (HR2.out.step HZ.out)
    clear HR3
    clear HZ HS
    have HC := Lib.hid (cI_RingInU HR2.out)
    rw [E1.out] at HC
    go_wp2_with fail
    refine HC.out.mono ?_
    rintro e w4 ⟨rfl, hb⟩
    replace HB := Lib.hid (bl_step HB.out hb)
    clear HR2
    clear hb HC
    clear E1
    go_wp2
    go_ret
    exact ⟨rfl, HB.out⟩
  obtain ⟨e1, e2, e3⟩ := E2.out (by omega)
  clear E1 E2
  have E1 := Lib.hid e1
  have E2 := Lib.hid e2
  have E3 := Lib.hid e3
  have hs2 := sign_size s
  have HS2 : (⟨#[45]⟩ ++ s : ByteArray).size ≤ 1048576 := by omega
  clear e1 e2 e3 hs2
  have HZ := Lib.hid (Below.refl w3.heap.size w3)
  go_wp2_with (first | (go_at_call 13; refine (HS.out _ (by first | exact HZ.out | exact HZ.out.drew)).mono ?_; rintro e wz ⟨rfl, hb⟩; replace HZ := Lib.hid (bl_step HZ.out hb); clear hb))
  replace HB := Lib.hid (bl_step HB.out HZ.out)
  replace HRT := Lib.hid (HRT.out.step HZ.out)
  replace HR2 := Lib.hid (HR2.out.step HZ.out)
  clear HR3
  clear HZ HS
  have HC := Lib.hid (cI_TermRing (⟨#[45]⟩ ++ s) HS2 HRT.out)
  rw [E1.out] at HC
  go_wp2_with fail
  refine HC.out.mono ?_
  rintro e w4 ⟨v, rfl, ⟨A4, n4, c4, rfl, hr⟩, hb⟩
  replace HB := Lib.hid (bl_step HB.out hb)
  clear HRT
  replace HR2 := Lib.hid (HR2.out.step hb)
  have HR4 := Lib.hid hr
  clear hr
  clear hb HC
  have HC := Lib.hid (cI_RingBackU HR4.out)
  rw [E2.out, E3.out] at HC
  go_wp2_with fail
  refine HC.out.mono ?_
  rintro e w5 ⟨v, rfl, ⟨A5, n5, c5, rfl, hr⟩, hb⟩
  replace HB := Lib.hid (bl_step HB.out hb)
  replace HR2 := Lib.hid (HR2.out.step hb)
  clear HR4
  have HR5 := Lib.hid hr
  clear hr
  clear hb HC
  have HC := Lib.hid (sameI_any HR5.out HR2.out)
  rw [same_self] at HC
  go_wp2_with fail
  refine HC.out.mono ?_
  rintro e w6 ⟨rfl, hb⟩
  replace HB := Lib.hid (bl_step HB.out hb)
  clear HR2
  clear HR5
  clear hb HC
  clear E1 E2 E3
  go_wp2
  go_ret
  exact ⟨rfl, HB.out⟩
end Go.Proofs.YtphffefkjbgibaaDoor
