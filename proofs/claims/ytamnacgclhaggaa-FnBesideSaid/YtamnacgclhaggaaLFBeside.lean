/- Points beside each other part no others: the law FnBeside. -/
import Derived.Test.YtamnacgclhaggaaDraw17
import Derived.Test.YtamnacgclhaggaaLawM
import Derived.Test.YtamnacgclhaggaaPqB
namespace Go.Proofs.Ytamnacgclhaggaa
open Go.ChangeShapes Go.WideShapes Go.ChangeAt Go.RowKit

set_option maxRecDepth 10000 in
set_option maxHeartbeats 4000000 in
theorem law_Beside (a0 : Option Addr) (len0 cap0 : Nat) (z0 : List Int) (w : World) (w0 : IsRow .u8 w a0 len0 cap0 z0) :
    Calls Try.prog 8 #[.slice a0 len0 cap0] w fun e w' => e = .returned (.bool true) ∧ Below w.heap.size w w' := by
  obtain ⟨h, hlc, hcm⟩ := byt_of_row w0
  have HD := Lib.hid (drawPairBeside_any len0 cap0 w.heap.size a0 w h (Nat.le_refl _) hlc hcm)
  clear w0 h
  by_cases hn : len0 ≤ 1048576
  rotate_left
  · go_enter Try.func8, Try.ntmps8
    go_wp2_with fail
    go_ret
    exact ⟨rfl, Below.refl _ _⟩
  go_enter Try.func8, Try.ntmps8
  go_wp2_with fail
  refine HD.out.mono ?_
  rintro e w1 ⟨v, l, x, y, rfl, ⟨A1, n1, c1, rfl, hr1⟩, hl, hb⟩
  have HB := Lib.hid hb
  have HR1 := Lib.hid hr1
  clear hb hr1 HD
  have HC := Lib.hid (cI_PairBesideQ HR1.out x y)
  go_wp2_with fail
  refine HC.out.mono ?_
  rintro e w2 ⟨rfl, hb⟩
  replace HB := Lib.hid (bl_step HB.out hb)
  replace HR1 := Lib.hid (HR1.out.step hb)
  clear hb HC
  have HC := Lib.hid (cS_PairBesideQ HR1.out x y)
  go_wp2_with fail
  refine HC.out.mono ?_
  rintro e w3 ⟨rfl, hb⟩
  replace HB := Lib.hid (bl_step HB.out hb)
  replace HR1 := Lib.hid (HR1.out.step hb)
  clear hb HC
  by_cases hk : bsB l x y = true
  rotate_left
  · have hk0 : bsB l x y = false := by simpa using hk
    rw [hk0]
    clear hk hk0
    go_wp2
    go_ret
    exact ⟨rfl, HB.out⟩
  obtain ⟨hyx, hno⟩ := bes_told hk
  have HN7 := HR1.out.2.2.2
  have HB0 := Lib.hid HB.out
  have HC := Lib.hid (fun (W : World) (hb : Below w3.heap.size w3 W) (z u : Nat) => by
    have h := cM_PairParts ((HR1.out.step hb).step ((Below.refl _ _).alloc (Nat.le_refl _) (.cells (ints [x, y, (z : Int), (u : Int)]).toArray 3))) (lit_rw W [x, y, (z : Int), (u : Int)] (by simp))
    rw [hno (z : Int) (u : Int)] at h
    exact h)
  simp only [ints, List.map_cons, List.map_nil, List.length_cons, List.length_nil] at HC
  have HE := Lib.hid (fun (W : World) (hb : Below w3.heap.size w3 W) => by
    have h := cI_PairBesideQ (HR1.out.step hb) y x
    rw [hyx] at h
    exact h)
  rw [hk]
  clear hk hyx hno HR1 HB hl
  go_wp2
  go_loopw [8] (fun i wr => ∃ k : Nat, k ≤ n1 ∧ i = .int .i64 k ∧ Hid (Below w3.heap.size w3 wr)) (fun i _ => n1 - (intOf i).toNat)
  case atStart => exact ⟨0, Nat.zero_le _, rfl, Lib.hid (Below.refl _ _)⟩
  case round =>
    obtain ⟨k, hk, rfl, hbo⟩ := hrel
    by_cases hlt : k < n1
    · obtain ⟨wo, rfl⟩ : ∃ wo : World, wo = wr := ⟨_, rfl⟩
      go_wp2
      go_loopw [9] (fun i wr => ∃ j : Nat, j ≤ k ∧ i = .int .i64 j ∧ Hid (Below w3.heap.size w3 wr)) (fun i _ => k - (intOf i).toNat)
      case atStart => exact ⟨0, Nat.zero_le _, rfl, hbo⟩
      case round =>
        obtain ⟨j, hj, rfl, hbi⟩ := hrel
        by_cases hlj : j < k
        · have HCk := Lib.hid (HC.out wr hbi.out k j)
          have HSZ := Lib.hid (hbi.out.alloc hbi.out.size (.cells #[.int .i64 x, .int .i64 y, .int .i64 (k : Int), .int .i64 (j : Int)] 3))
          go_wp2_with fail
          refine HCk.out.mono ?_
          rintro e w8 ⟨rfl, hb8⟩
          have HB8 := Lib.hid (HSZ.out.trans (hb8.mono (by have := hbi.out.size; simp; omega)))
          clear hb8 HSZ HCk
          go_wp2
          go_roundw
          case rel => exact ⟨j + 1, by omega, by go_num, HB8⟩
          case measure => simp [intOf]; omega
        · obtain rfl : k = j := by omega
          go_wp2
          go_roundw
          case rel => exact ⟨k + 1, by omega, by go_num, hbi⟩
          case measure => simp [intOf]; omega
    · obtain rfl : n1 = k := by omega
      have HEk := Lib.hid (HE.out wr hbo.out)
      go_wp2_with fail
      refine HEk.out.mono ?_
      rintro e w8 ⟨rfl, hb8⟩
      have HB8 := Lib.hid (bl_step hbo.out hb8)
      clear hb8
      go_wp2
      go_ret
      exact ⟨rfl, bl_step HB0.out HB8.out⟩
end Go.Proofs.Ytamnacgclhaggaa
